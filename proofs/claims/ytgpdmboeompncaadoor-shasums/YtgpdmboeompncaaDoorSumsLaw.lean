/-
  The walk of the statement on sums and constants.
-/
import Derived.Test.YtgpdmboeompncaaDoorRefDigest
import Derived.Test.YtgpdmboeompncaaDoorRoots
import Derived.Test.YtgpdmboeompncaaDoorWorks
namespace Go.Proofs.YtgpdmboeompncaaDoor
open Go.RowKit Go.Lib

set_option maxRecDepth 100000 in
theorem refConst_any (i : Nat) (hi : i < 64) (w : World) :
    Calls Tryd.prog 11 #[.int .i64 i] w fun e w' => e = .returned (.tuple #[.int .i64 (K i), .int .i64 0]) ∧ Below w.heap.size w w' := by
  have b0 : (0 : Int) ≤ (i : Int) := by omega
  have b1 : (i : Int) < 64 := by omega
  have hk : 0 ≤ K i ∧ K i < 4294967296 := (show ∀ i, i < 64 → 0 ≤ K i ∧ K i < 4294967296 by decide) i hi
  obtain ⟨k, hke⟩ : ∃ k, k = K i := ⟨_, rfl⟩
  rw [← hke] at hk ⊢
  have HK : Hid _ := hke
  clear hke
  obtain ⟨hk0, hk1⟩ := hk
  go_enter Tryd.func11, Tryd.ntmps11
  go_wp2_with fail
  refine (consts_any w).mono ?_
  rintro e w1 ⟨rfl, hb1⟩
  have z1 := hb1.size
  go_wp2_with (refine wpList_alloc_any rfl 53 rfl _ zero53 ?_)
  intro w2 hc2 hs2 hb2
  have fk : (w2.setRow w1.heap.size (Ks.map word).toArray).heap[w1.heap.size]? = some (.cells (Ks.map word).toArray 53 (0, 0)) := setRow_heap w2 _ _ _ 53 (0, 0) hc2
  have bel : Below w.heap.size w (w2.setRow w1.heap.size (Ks.map word).toArray) := below_gb (hb1.trans (hb2.mono z1)) (gb_setRow _ _ _) z1 (by omega)
  have ck : (w2.setRow w1.heap.size (Ks.map word).toArray).cell? ⟨w1.heap.size, i, none⟩ = some (.int .u32 k) := by
    rw [cell_of_row _ _ i _ _ _ fk, HK.out]
    have hl : i < Ks.length := hi
    simp [K, word, List.getElem?_eq_getElem hl]
  go_wp2_with (refine wpList_store_row rfl 53 _ _ rfl _ _ rfl rfl 53 _ hc2 Ks_info (by kernel_rfl) (by kernel_rfl) ?_)
  generalize w2.setRow w1.heap.size (Ks.map word).toArray = x2 at *
  go_wp2
  go_ret2
  exact ⟨rfl, bel⟩
theorem refConst_bad (i : Int) (w : World) (hi : i < 0 ∨ 64 ≤ i) :
    Calls Tryd.prog 11 #[.int .i64 i] w fun e w' => e = .returned (.tuple #[.int .i64 0, .int .i64 1]) ∧ w' = w := by
  rcases hi with h | h
  · go_enter Tryd.func11, Tryd.ntmps11
    go_wp2
    go_ret2
    exact ⟨rfl, rfl⟩
  · have h0 : ¬ i < 0 := by omega
    go_enter Tryd.func11, Tryd.ntmps11
    go_wp2
    go_ret2
    exact ⟨rfl, rfl⟩

/-- Both tell the same constant. -/
theorem const_both (i : Int) : ∃ k E : Int, (∀ w : World, Laid w → Calls Tryd.prog 10 #[.int .i64 i] w fun e w' => e = .returned (.tuple #[.int .i64 k, .int .i64 E]) ∧ w' = w) ∧
    ∀ w : World, Calls Tryd.prog 11 #[.int .i64 i] w fun e w' => e = .returned (.tuple #[.int .i64 k, .int .i64 E]) ∧ Below w.heap.size w w' := by
  by_cases h : i < 0 ∨ 64 ≤ i
  · exact ⟨0, 1, fun w _ => const_bad i h, fun w => (refConst_bad i w h).mono fun _ _ ⟨he, hw⟩ => ⟨he, by rw [hw]; exact Below.refl _ _⟩⟩
  · obtain ⟨j, rfl⟩ := Int.eq_ofNat_of_zero_le (show 0 ≤ i by omega)
    exact ⟨K j, 0, fun w hL => const_any hL j (by omega), fun w => refConst_any j (by omega) w⟩

set_option maxHeartbeats 800000 in
set_option maxRecDepth 100000 in
theorem sums_walk (s : ByteArray) (i : Int) {w : World} (hL : Laid w) (hs : s.size ≤ 140737488355328) :
    Calls Tryd.prog 3 #[.string s, .int .i64 i] w fun e w' => e = .returned (.bool true) ∧ Below w.heap.size w w' := by
  by_cases h3000 : 3000 < s.size
  · go_enter Tryd.func3, Tryd.ntmps3
    go_wp2_with fail
    refine (works_any hL).mono ?_
    rintro e w1 ⟨rfl, hb1⟩
    go_wp2
    go_ret
    exact ⟨rfl, hb1⟩
  obtain ⟨k, E, h1, h2⟩ := const_both i
  have H1 : Hid _ := h1
  have H2 : Hid _ := h2
  clear h1 h2
  have hsz := hL.size
  have hlen : s.data.toList.length ≤ 3000 := by rw [← Lib.size_eq]; omega
  go_enter Tryd.func3, Tryd.ntmps3
  go_wp2_with fail
  refine (H1.out w hL).mono ?_
  rintro e w1 ⟨rfl, rfl⟩
  go_wp2_with fail
  refine (H2.out _).mono ?_
  rintro e w2 ⟨rfl, hb2⟩
  go_wp2_with fail
  have hb3 : Below w1.heap.size w1 (w2.alloc (.cells #[.string s] 9)) := hb2.alloc hb2.size _
  have hJ : joined [s] = s.data.toList := by simp [joined]
  refine (sum_any (ps := [s]) (hL.below hb3 hsz) (pieces_new w2 [s]) (by simp) (by rw [hJ]; omega)).mono ?_
  rw [hJ]
  rintro e w4 ⟨rfl, hb4⟩
  go_wp2_with fail
  refine Calls.mono (R := fun e w' => e = .returned (.string (strOf (digest s.data.toList))) ∧ Below w4.heap.size w4 w') (by
    have := refDigest_any s.data.toList w4 (by omega)
    rwa [strOf_self'] at this) ?_
  rintro e w5 ⟨rfl, hb5⟩
  have z3 := hb3.size
  have z4 := hb4.size
  have hbw := (hb3.trans (hb4.mono z3)).trans (hb5.mono (by omega))
  generalize strOf (digest s.data.toList) = D
  clear hb2 hb3 hb4 hb5 hJ hlen
  go_wp2_with fail
  refine (works_any (hL.below hbw hsz)).mono ?_
  rintro e w6 ⟨rfl, hb6⟩
  go_wp2
  go_ret
  exact ⟨rfl, hbw.trans (hb6.mono hbw.size)⟩

end Go.Proofs.YtgpdmboeompncaaDoor

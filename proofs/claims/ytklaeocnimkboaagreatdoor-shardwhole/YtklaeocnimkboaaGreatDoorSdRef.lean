/-
  SdRef: texts of earlier layers, laid over this program.
-/
import Derived.Test.YtklaeocnimkboaaGreatDoorSdRefCrc
import Derived.Test.YtklaeocnimkboaaGreatDoorSdCheck
import Derived.BigQuiet
namespace Go.Proofs.YtklaeocnimkboaaGreatDoor
open Go.RowKit Go.Lib

set_option maxRecDepth 100000 in
set_option maxHeartbeats 1600000 in
theorem refCheck_bad (k m i long : Int) (id data : ByteArray) (w : World) (h : ¬ okS ⟨k, m, i, long, id, data⟩) :
    Calls Tryz.prog 29 #[.agg #[.int .i64 k, .int .i64 m, .int .i64 i, .int .i64 long, .string id, .string data]] w fun e w' => e = .returned (.int .i64 60) ∧ Below w.heap.size w w' := by
  have X := SK.new 34 w k m i long id data
  obtain ⟨W, hW⟩ : ∃ W, W = w.alloc (.cells #[.int .i64 k, .int .i64 m, .int .i64 i, .int .i64 long, .string id, .string data] 34) := ⟨_, rfl⟩
  have HB : Hid (Below w.heap.size w W) := by rw [hW]; exact below_alloc (Below.refl _ _) _
  rw [← hW] at X
  have HW := hide hW
  have hl := X.lt
  have c0 := X.cell0
  have c1 := X.cell1
  have c2 := X.cell2
  have c3 := X.cell3
  have c4 := X.cell4
  have c5 := X.cell5
  clear hW
  have HN := hide h
  clear h
  go_enter Tryz.func29, Tryz.ntmps29
  go_upto_region 1 with fail
  rw [← HW.out]
  clear HW X
  by_cases h1 : k < 1
  · clear HN
    go_wp2
    go_ret
    exact ⟨rfl, HB.out⟩
  by_cases h2 : m < 0
  · clear HN
    go_wp2
    go_ret
    exact ⟨rfl, HB.out⟩
  by_cases h3 : 255 < k
  · clear HN
    go_wp2
    go_ret
    exact ⟨rfl, HB.out⟩
  by_cases h4 : 255 - k < m
  · clear HN
    go_wp2
    go_ret
    exact ⟨rfl, HB.out⟩
  by_cases h5 : i < 0
  · clear HN
    go_wp2
    go_ret
    exact ⟨rfl, HB.out⟩
  by_cases h6 : k + m ≤ i
  · clear HN
    go_wp2
    go_ret
    exact ⟨rfl, HB.out⟩
  by_cases h7 : long < 0
  · clear HN
    go_wp2
    go_ret
    exact ⟨rfl, HB.out⟩
  by_cases h8 : 65536 < long
  · clear HN
    go_wp2
    go_ret
    exact ⟨rfl, HB.out⟩
  by_cases h9 : id.size = 32
  · obtain ⟨K, rfl⟩ := Int.eq_ofNat_of_zero_le (show 0 ≤ k by omega)
    obtain ⟨L, rfl⟩ := Int.eq_ofNat_of_zero_le (show 0 ≤ long by omega)
    have hd : (((data.size : Nat) : Int) != ((eachN K L : Nat) : Int)) = true := by
      rw [bne_iff_ne]
      intro hh
      refine HN.out ⟨⟨by simp only; omega, by simp only; omega, by simp only; omega⟩, ⟨by simp only; omega, by simp only; omega⟩, ⟨by simp only; omega, by simp only; omega⟩, h9, ?_⟩
      simp only [Int.toNat_natCast]
      omega
    have h9b : (((id.size : Nat) : Int) != 32) = false := by rw [h9]; rfl
    have hk1 : 1 ≤ K := by omega
    have hk2 : K ≤ 255 := by omega
    have hl2 : L ≤ 65536 := by omega
    have HSZ : Hid (∀ w' : World, Calls Tryz.prog 53 #[.int .i64 (K : Int), .int .i64 (L : Int)] w' fun e w'' => e = .returned (.int .i64 ((eachN K L : Nat) : Int)) ∧ w'' = w') := fun w' => size_any hk1 hk2 hl2
    generalize eachN K L = q at *
    clear HN h9
    go_wp2_with fail
    go_quiet (first | (go_at_call 53; exact Calls.quiet_of_same (HSZ.out _)))
    go_wp2
    go_ret
    exact ⟨rfl, below_drew HB.out _⟩
  · have h9b : (((id.size : Nat) : Int) != 32) = true := by
      rw [bne_iff_ne]
      omega
    clear HN h9
    go_wp2
    go_ret
    exact ⟨rfl, HB.out⟩

set_option maxRecDepth 100000 in
set_option maxHeartbeats 1600000 in
theorem refCheck_ok (k m i long : Int) (id data : ByteArray) (w : World) (h : okS ⟨k, m, i, long, id, data⟩) :
    Calls Tryz.prog 29 #[.agg #[.int .i64 k, .int .i64 m, .int .i64 i, .int .i64 long, .string id, .string data]] w fun e w' => e = .returned (.int .i64 0) ∧ Below w.heap.size w w' := by
  obtain ⟨⟨k1, m0, km⟩, ⟨i0, i1⟩, ⟨l0, l1⟩, hid, hd⟩ := h
  simp only at k1 m0 km i0 i1 l0 l1 hid hd
  obtain ⟨K, rfl⟩ := Int.eq_ofNat_of_zero_le (show 0 ≤ k by omega)
  obtain ⟨L, rfl⟩ := Int.eq_ofNat_of_zero_le (show 0 ≤ long by omega)
  simp only [Int.toNat_natCast] at hd
  have h9b : (((id.size : Nat) : Int) != 32) = false := by rw [hid]; rfl
  have HSZ : Hid (∀ w' : World, Calls Tryz.prog 53 #[.int .i64 (K : Int), .int .i64 (L : Int)] w' fun e w'' => e = .returned (.int .i64 ((data.size : Nat) : Int)) ∧ w'' = w') := fun w' => by rw [hd]; exact size_any (by omega) (by omega) (by omega)
  clear hd hid
  have X := SK.new 34 w K m i L id data
  obtain ⟨W, hW⟩ : ∃ W, W = w.alloc (.cells #[.int .i64 (K : Int), .int .i64 m, .int .i64 i, .int .i64 (L : Int), .string id, .string data] 34) := ⟨_, rfl⟩
  have HB : Hid (Below w.heap.size w W) := by rw [hW]; exact below_alloc (Below.refl _ _) _
  rw [← hW] at X
  have HW := hide hW
  have hl := X.lt
  have c0 := X.cell0
  have c1 := X.cell1
  have c2 := X.cell2
  have c3 := X.cell3
  have c4 := X.cell4
  have c5 := X.cell5
  clear hW
  go_enter Tryz.func29, Tryz.ntmps29
  go_upto_region 1 with fail
  rw [← HW.out]
  clear HW X
  go_wp2_with fail
  go_quiet (first | (go_at_call 53; exact Calls.quiet_of_same (HSZ.out _)))
  go_wp2
  go_ret
  exact ⟨rfl, below_drew HB.out _⟩
end Go.Proofs.YtklaeocnimkboaaGreatDoor


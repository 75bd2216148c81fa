/-
  One thing that both readers are asked.
-/
import Derived.Test.YtifbcmcefggofaaRef4
import Derived.Deep.RegionWith
namespace Go.Proofs.Ytifbcmcefggofaa
open Go.RowKit Go.Lib

/-- Both readers are at one place, with one error; below block B nothing has turned. -/
def Both (B : Nat) (w : World) (b k : Nat) (s : ByteArray) (w' : World) : Prop :=
  ∃ (p : Nat) (x : Int), p ≤ s.size ∧ Rd 52 w' b s p x ∧ Rd 34 w' k s p x ∧ Below B w w'

/-- The act, boxed, lies as it lay. -/
theorem box_n {w W w1 : World} {b : Nat} {K n : Int} (hg : W.grownBy w1 (some b)) (hW : W.heap = (w.alloc (.cells #[.int .i64 K, .int .i64 n] 37)).heap) (hne : w.heap.size ≠ b) : w1.cell? ⟨w.heap.size, 1, none⟩ = some (.int .i64 n) := by
  have h0 : W.heap[w.heap.size]? = some (.cells #[.int .i64 K, .int .i64 n] 37 (0, 0)) := by rw [hW]; exact heap_alloc_new w _
  have h1 : w1.heap[w.heap.size]? = some (.cells #[.int .i64 K, .int .i64 n] 37 (0, 0)) := (hg.block _ (lt_of_block h0) (by simpa using hne)).trans h0
  simp [World.cell?, h1]

theorem AhOk.long {s : ByteArray} {p : Nat} {A : Ah} (h : AhOk s p A) (hp : p ≤ s.size) (x : Int) : p + (asked x A).long ≤ s.size := by
  by_cases hx : x = 0
  · subst hx
    rw [asked_zero]
    rcases h with ⟨_, h⟩ | ⟨c, _, rfl⟩
    · exact h
    · exact hp
  · rw [asked_some hx]; exact hp

set_option maxRecDepth 100000 in
set_option maxHeartbeats 800000 in
theorem step_0 {B : Nat} {w : World} {b k : Nat} {s : ByteArray} {p : Nat} {x : Int} (K n : Int) (hr : Rd 52 w b s p x) (hk : Rd 34 w k s p x) (hne : b ≠ k) (hBb : B ≤ b) (hBk : B ≤ k) (hp : p ≤ s.size) (hs : s.size ≤ 140737488355328)
    (hK : -9223372036854775808 ≤ K ∧ K ≤ 9223372036854775807) (hn : n ≤ 9223372036854775807) (h6 : K % 6 = 0) :
    Calls Try.prog 16 #[.pointer (some ⟨b, 0, none⟩), .pointer (some ⟨k, 0, none⟩), .agg #[.int .i64 K, .int .i64 n]] w fun e w' => e = .returned (.bool true) ∧ Both B w b k s w' := by
  have hl := hr.lt
  have hlk := hk.lt
  have hr1 := hr.alloc (.cells #[.int .i64 K, .int .i64 n] 37)
  have hk1 := hk.alloc (.cells #[.int .i64 K, .int .i64 n] 37)
  have hlong := (fixedA_ok s p n).long hp x
  go_enter Try.func16, Try.ntmps16
  go_wp2_with fail
  refine (among_six K _ hK).mono ?_
  rw [h6]
  clear h6 hK
  rintro e w0 ⟨rfl, rfl⟩
  go_wp2
  go_region_with (first
    | (go_at_call 21; refine (rFixed_any n (p := p) (x := x) (s := s) (by exact hr1) hp hs hn).mono ?_; rintro e w1 ⟨rfl, hr2, hg1⟩; have hk2 : Rd 34 w1 k s p x := Rd.grown (by exact hk1) hg1 (by simpa using Ne.symm hne); have hn1 := box_n (n := n) (K := K) (w := w) hg1 rfl (by omega); have hb1 : Below B w w1 := ((Below.refl B w).alloc (by omega) (.cells #[.int .i64 K, .int .i64 n] 37)).drew.grown hg1 (by simp; omega) (fun j hj => by simp at hj; omega); clear hg1)
    | (go_at_call 28; refine (refFixed_r n (p := p) (x := x) (s := s) (by exact hk2) hp hs hn).mono ?_; rintro e w2 ⟨rfl, hk3, hg2⟩; have hr3 := hr2.grown hg2 (by simpa using hne); have hb2 := hb1.grown hg2 (Nat.le_trans (by omega) hb1.size) (fun j hj => by simp at hj; omega); clear hg2))
  all_goals
    go_wp2
    go_ret
    exact ⟨rfl, _, _, hlong, hr3, hk3, hb2⟩

set_option maxRecDepth 100000 in
set_option maxHeartbeats 800000 in
theorem step_1 {B : Nat} {w : World} {b k : Nat} {s : ByteArray} {p : Nat} {x : Int} (K n : Int) (hr : Rd 52 w b s p x) (hk : Rd 34 w k s p x) (hne : b ≠ k) (hBb : B ≤ b) (hBk : B ≤ k) (hp : p ≤ s.size) (hs : s.size ≤ 140737488355328)
    (hK : -9223372036854775808 ≤ K ∧ K ≤ 9223372036854775807) (h6 : K % 6 = 1) :
    Calls Try.prog 16 #[.pointer (some ⟨b, 0, none⟩), .pointer (some ⟨k, 0, none⟩), .agg #[.int .i64 K, .int .i64 n]] w fun e w' => e = .returned (.bool true) ∧ Both B w b k s w' := by
  have hl := hr.lt
  have hlk := hk.lt
  have hr1 := hr.alloc (.cells #[.int .i64 K, .int .i64 n] 37)
  have hk1 := hk.alloc (.cells #[.int .i64 K, .int .i64 n] 37)
  have hlong := (shortA_ok s p n hp).long hp x
  go_enter Try.func16, Try.ntmps16
  go_wp2_with fail
  refine (among_six K _ hK).mono ?_
  rw [h6]
  clear h6 hK
  rintro e w0 ⟨rfl, rfl⟩
  go_wp2
  go_region_with (first
    | (go_at_call 22; refine (rShort_any n (p := p) (x := x) (s := s) (by exact hr1) hp hs).mono ?_; rintro e w1 ⟨rfl, hr2, hg1⟩; have hk2 : Rd 34 w1 k s p x := Rd.grown (by exact hk1) hg1 (by simpa using Ne.symm hne); have hn1 := box_n (n := n) (K := K) (w := w) hg1 rfl (by omega); have hb1 : Below B w w1 := ((Below.refl B w).alloc (by omega) (.cells #[.int .i64 K, .int .i64 n] 37)).drew.grown hg1 (by simp; omega) (fun j hj => by simp at hj; omega); clear hg1)
    | (go_at_call 29; refine (refShort_r n (p := p) (x := x) (s := s) (by exact hk2) hp hs).mono ?_; rintro e w2 ⟨rfl, hk3, hg2⟩; have hr3 := hr2.grown hg2 (by simpa using hne); have hb2 := hb1.grown hg2 (Nat.le_trans (by omega) hb1.size) (fun j hj => by simp at hj; omega); clear hg2))
  all_goals
    go_wp2
    go_ret
    exact ⟨rfl, _, _, hlong, hr3, hk3, hb2⟩

set_option maxRecDepth 100000 in
set_option maxHeartbeats 800000 in
theorem step_2 {B : Nat} {w : World} {b k : Nat} {s : ByteArray} {p : Nat} {x : Int} (K n : Int) (hr : Rd 52 w b s p x) (hk : Rd 34 w k s p x) (hne : b ≠ k) (hBb : B ≤ b) (hBk : B ≤ k) (hp : p ≤ s.size) (hs : s.size ≤ 140737488355328)
    (hK : -9223372036854775808 ≤ K ∧ K ≤ 9223372036854775807) (h6 : K % 6 = 2) :
    Calls Try.prog 16 #[.pointer (some ⟨b, 0, none⟩), .pointer (some ⟨k, 0, none⟩), .agg #[.int .i64 K, .int .i64 n]] w fun e w' => e = .returned (.bool true) ∧ Both B w b k s w' := by
  have hl := hr.lt
  have hlk := hk.lt
  have hr1 := hr.alloc (.cells #[.int .i64 K, .int .i64 n] 37)
  have hk1 := hk.alloc (.cells #[.int .i64 K, .int .i64 n] 37)
  have hlong := (textA_ok s p n hp).long hp x
  go_enter Try.func16, Try.ntmps16
  go_wp2_with fail
  refine (among_six K _ hK).mono ?_
  rw [h6]
  clear h6 hK
  rintro e w0 ⟨rfl, rfl⟩
  go_wp2
  go_region_with (first
    | (go_at_call 23; refine (rText_any n (p := p) (x := x) (s := s) (by exact hr1) hp hs).mono ?_; rintro e w1 ⟨rfl, hr2, hg1⟩; have hk2 : Rd 34 w1 k s p x := Rd.grown (by exact hk1) hg1 (by simpa using Ne.symm hne); have hn1 := box_n (n := n) (K := K) (w := w) hg1 rfl (by omega); have hb1 : Below B w w1 := ((Below.refl B w).alloc (by omega) (.cells #[.int .i64 K, .int .i64 n] 37)).drew.grown hg1 (by simp; omega) (fun j hj => by simp at hj; omega); clear hg1)
    | (go_at_call 30; refine (refText_r n (p := p) (x := x) (s := s) (by exact hk2) hp hs).mono ?_; rintro e w2 ⟨rfl, hk3, hg2⟩; have hr3 := hr2.grown hg2 (by simpa using hne); have hb2 := hb1.grown hg2 (Nat.le_trans (by omega) hb1.size) (fun j hj => by simp at hj; omega); clear hg2))
  all_goals
    go_wp2
    go_ret
    exact ⟨rfl, _, _, hlong, hr3, hk3, hb2⟩

set_option maxRecDepth 100000 in
set_option maxHeartbeats 800000 in
theorem step_3 {B : Nat} {w : World} {b k : Nat} {s : ByteArray} {p : Nat} {x : Int} (K n : Int) (hr : Rd 52 w b s p x) (hk : Rd 34 w k s p x) (hne : b ≠ k) (hBb : B ≤ b) (hBk : B ≤ k) (hp : p ≤ s.size) (hs : s.size ≤ 140737488355328)
    (hK : -9223372036854775808 ≤ K ∧ K ≤ 9223372036854775807) (hn : n ≤ 9223372036854775807) (h6 : K % 6 = 3) :
    Calls Try.prog 16 #[.pointer (some ⟨b, 0, none⟩), .pointer (some ⟨k, 0, none⟩), .agg #[.int .i64 K, .int .i64 n]] w fun e w' => e = .returned (.bool true) ∧ Both B w b k s w' := by
  have hl := hr.lt
  have hlk := hk.lt
  have hr1 := hr.alloc (.cells #[.int .i64 K, .int .i64 n] 37)
  have hk1 := hk.alloc (.cells #[.int .i64 K, .int .i64 n] 37)
  have hlong := (bytesA_ok s p n).long hp x
  go_enter Try.func16, Try.ntmps16
  go_wp2_with fail
  refine (among_six K _ hK).mono ?_
  rw [h6]
  clear h6 hK
  rintro e w0 ⟨rfl, rfl⟩
  go_wp2
  go_region_with (first
    | (go_at_call 25; refine (rBytes_any n (p := p) (x := x) (s := s) (by exact hr1) hp hs hn).mono ?_; rintro e w1 ⟨rfl, hr2, hg1⟩; have hk2 : Rd 34 w1 k s p x := Rd.grown (by exact hk1) hg1 (by simpa using Ne.symm hne); have hn1 := box_n (n := n) (K := K) (w := w) hg1 rfl (by omega); have hb1 : Below B w w1 := ((Below.refl B w).alloc (by omega) (.cells #[.int .i64 K, .int .i64 n] 37)).drew.grown hg1 (by simp; omega) (fun j hj => by simp at hj; omega); clear hg1)
    | (go_at_call 31; refine (refBytes_any n (p := p) (x := x) (s := s) (by exact hk2) hp hs hn).mono ?_; rintro e w2 ⟨rfl, hk3, hg2⟩; have hr3 := hr2.grown hg2 (by simpa using hne); have hb2 := hb1.grown hg2 (Nat.le_trans (by omega) hb1.size) (fun j hj => by simp at hj; omega); clear hg2))
  all_goals
    go_wp2
    go_ret
    exact ⟨rfl, _, _, hlong, hr3, hk3, hb2⟩

set_option maxRecDepth 100000 in
set_option maxHeartbeats 800000 in
theorem step_4 {B : Nat} {w : World} {b k : Nat} {s : ByteArray} {p : Nat} {x : Int} (K n : Int) (hr : Rd 52 w b s p x) (hk : Rd 34 w k s p x) (hne : b ≠ k) (hBb : B ≤ b) (hBk : B ≤ k) (hp : p ≤ s.size)
    (hK : -9223372036854775808 ≤ K ∧ K ≤ 9223372036854775807) (h6 : K % 6 = 4) :
    Calls Try.prog 16 #[.pointer (some ⟨b, 0, none⟩), .pointer (some ⟨k, 0, none⟩), .agg #[.int .i64 K, .int .i64 n]] w fun e w' => e = .returned (.bool true) ∧ Both B w b k s w' := by
  have hl := hr.lt
  have hlk := hk.lt
  have hr1 := hr.alloc (.cells #[.int .i64 K, .int .i64 n] 37)
  have hk1 := hk.alloc (.cells #[.int .i64 K, .int .i64 n] 37)
  go_enter Try.func16, Try.ntmps16
  go_wp2_with fail
  refine (among_six K _ hK).mono ?_
  rw [h6]
  clear h6 hK
  rintro e w0 ⟨rfl, rfl⟩
  go_wp2_with fail
  refine (fail_any n hr1).mono ?_
  rintro e w1 ⟨rfl, hr2, hg1⟩
  have hk2 : Rd 34 w1 k s p x := hk1.grown hg1 (by simpa using Ne.symm hne)
  have hn1 := box_n (n := n) (K := K) (w := w) hg1 rfl (by omega)
  have hb1 : Below B w w1 := ((Below.refl B w).alloc (by omega) (.cells #[.int .i64 K, .int .i64 n] 37)).grown hg1 (by simp; omega) (fun j hj => by simp at hj; omega)
  clear hg1
  go_wp2_with fail
  refine (refFail_any n hk2).mono ?_
  rintro e w2 ⟨rfl, hk3, hg2⟩
  have hr3 := hr2.grown hg2 (by simpa using hne)
  have hb2 := hb1.grown hg2 (Nat.le_trans (by omega) hb1.size) (fun j hj => by simp at hj; omega)
  clear hg2
  go_wp2
  go_ret
  exact ⟨rfl, _, _, hp, hr3, hk3, hb2⟩

set_option maxRecDepth 100000 in
set_option maxHeartbeats 800000 in
theorem step_5 {B : Nat} {w : World} {b k : Nat} {s : ByteArray} {p : Nat} {x : Int} (K n : Int) (hr : Rd 52 w b s p x) (hk : Rd 34 w k s p x) (hne : b ≠ k) (hBb : B ≤ b) (hBk : B ≤ k) (hp : p ≤ s.size) (hs : s.size ≤ 140737488355328)
    (hK : -9223372036854775808 ≤ K ∧ K ≤ 9223372036854775807) (h6 : K % 6 = 5) :
    Calls Try.prog 16 #[.pointer (some ⟨b, 0, none⟩), .pointer (some ⟨k, 0, none⟩), .agg #[.int .i64 K, .int .i64 n]] w fun e w' => e = .returned (.bool true) ∧ Both B w b k s w' := by
  have hl := hr.lt
  have hlk := hk.lt
  have hr1 := hr.alloc (.cells #[.int .i64 K, .int .i64 n] 37)
  have hk1 := hk.alloc (.cells #[.int .i64 K, .int .i64 n] 37)
  go_enter Try.func16, Try.ntmps16
  go_wp2_with fail
  refine (among_six K _ hK).mono ?_
  rw [h6]
  clear h6 hK
  rintro e w0 ⟨rfl, rfl⟩
  go_wp2_with fail
  refine (end_any hr1 hp hs).mono ?_
  rintro e w1 ⟨rfl, hr2, hg1⟩
  have hk2 : Rd 34 w1 k s p x := hk1.grown hg1 (by simpa using Ne.symm hne)
  have hb1 : Below B w w1 := ((Below.refl B w).alloc (by omega) (.cells #[.int .i64 K, .int .i64 n] 37)).grown hg1 (by simp; omega) (fun j hj => by simp at hj; omega)
  clear hg1
  go_wp2_with fail
  refine (refEnd_any hk2 hp hs).mono ?_
  rintro e w2 ⟨rfl, hk3, hg2⟩
  have hr3 := hr2.grown hg2 (by simpa using hne)
  have hb2 := hb1.grown hg2 (Nat.le_trans (by omega) hb1.size) (fun j hj => by simp at hj; omega)
  clear hg2
  go_wp2
  go_ret
  exact ⟨rfl, _, _, hp, hr3, hk3, hb2⟩

theorem step_any {B : Nat} {w : World} {b k : Nat} {s : ByteArray} {p : Nat} {x : Int} (K n : Int) (hr : Rd 52 w b s p x) (hk : Rd 34 w k s p x) (hne : b ≠ k) (hBb : B ≤ b) (hBk : B ≤ k) (hp : p ≤ s.size) (hs : s.size ≤ 140737488355328)
    (hK : -9223372036854775808 ≤ K ∧ K ≤ 9223372036854775807) (hn : n ≤ 9223372036854775807) :
    Calls Try.prog 16 #[.pointer (some ⟨b, 0, none⟩), .pointer (some ⟨k, 0, none⟩), .agg #[.int .i64 K, .int .i64 n]] w fun e w' => e = .returned (.bool true) ∧ Both B w b k s w' := by
  rcases (show K % 6 = 0 ∨ K % 6 = 1 ∨ K % 6 = 2 ∨ K % 6 = 3 ∨ K % 6 = 4 ∨ K % 6 = 5 by omega) with h | h | h | h | h | h
  · exact step_0 K n hr hk hne hBb hBk hp hs hK hn h
  · exact step_1 K n hr hk hne hBb hBk hp hs hK h
  · exact step_2 K n hr hk hne hBb hBk hp hs hK h
  · exact step_3 K n hr hk hne hBb hBk hp hs hK hn h
  · exact step_4 K n hr hk hne hBb hBk hp hK h
  · exact step_5 K n hr hk hne hBb hBk hp hs hK h

end Go.Proofs.Ytifbcmcefggofaa

/-
  The contracts of the looks ahead.
-/
import Derived.Test.YtifbcmcefggofaaReader
import Derived.Test.YtifbcmcefggofaaSpec
namespace Go.Proofs.Ytifbcmcefggofaa
open Go.RowKit Go.Lib

/-- What was found lies at block g. -/
def Fd (w : World) (g : Nat) (n : Int) (t : ByteArray) (l : Int) : Prop :=
  w.heap[g]? = some (.cells #[.int .i64 n, .string t, .int .i64 l] 54 (0, 0))

section
variable {w w' : World} {g : Nat} {n : Int} {t : ByteArray} {l : Int}
theorem Fd.lt (h : Fd w g n t l) : g < w.heap.size := lt_of_block h
theorem Fd.cell0 (h : Fd w g n t l) : w.cell? ⟨g, 0, none⟩ = some (.int .i64 n) := by simp [World.cell?, show w.heap[g]? = _ from h]
theorem Fd.cell1 (h : Fd w g n t l) : w.cell? ⟨g, 1, none⟩ = some (.string t) := by simp [World.cell?, show w.heap[g]? = _ from h]
theorem Fd.cell2 (h : Fd w g n t l) : w.cell? ⟨g, 2, none⟩ = some (.int .i64 l) := by simp [World.cell?, show w.heap[g]? = _ from h]
theorem Fd.free (h : Fd w g n t l) (j : Nat) : w.frozen? ⟨g, j, none⟩ = false := by simp [World.frozen?, show w.heap[g]? = _ from h]
theorem Fd.below (h : Fd w g n t l) {B : Nat} (hb : Below B w w') (hB : g < B) : Fd w' g n t l := (hb.block g hB).trans h
theorem Fd.grown (h : Fd w g n t l) {row : Option Nat} (hg : w.grownBy w' row) (hne : some g ≠ row) : Fd w' g n t l := (hg.block g h.lt hne).trans h
theorem Fd.drewN (h : Fd w g n t l) (k : Nat) : Fd (w.drewN k) g n t l := h
theorem Fd.put (h : Fd w g n t l) (n' : Int) (t' : ByteArray) (l' : Int) :
    Fd (((w.setCell ⟨g, 0, none⟩ (.int .i64 n')).setCell ⟨g, 1, none⟩ (.string t')).setCell ⟨g, 2, none⟩ (.int .i64 l')) g n' t' l' :=
  heap_set_self (u := .int .i64 l') (heap_set_self (u := .string t') (heap_set_self (u := .int .i64 n') h))
theorem Fd.alloc (h : Fd w g n t l) (o : Obj) : Fd (w.alloc o) g n t l := (Below.heap_alloc w o g h.lt).trans h
theorem Fd.new (w : World) (n : Int) (t : ByteArray) (l : Int) : Fd (w.alloc (.cells #[.int .i64 n, .string t, .int .i64 l] 54)) w.heap.size n t l := heap_alloc_new w _
end

theorem below_put {B : Nat} {w w1 : World} (hb : Below B w w1) {g : Nat} (hg : B ≤ g) (u0 u1 u2 : Value) :
    Below B w (((w1.setCell ⟨g, 0, none⟩ u0).setCell ⟨g, 1, none⟩ u1).setCell ⟨g, 2, none⟩ u2) := ((hb.setCell (p := ⟨g, 0, none⟩) hg u0).setCell (p := ⟨g, 1, none⟩) hg u1).setCell (p := ⟨g, 2, none⟩) hg u2

set_option maxRecDepth 100000 in
set_option maxHeartbeats 400000 in
theorem bytesAhead_any {w : World} {b : Nat} {s : ByteArray} {p : Nat} {x : Int} (n : Int) (hr : Rd 52 w b s p x) (hp : p ≤ s.size) (hs : s.size ≤ 140737488355328) (hn : n ≤ 9223372036854775807) :
    Calls Try.prog 38 #[.pointer (some ⟨b, 0, none⟩), .int .i64 n] w fun e w' =>
      e = .returned (.tuple #[.agg #[.int .i64 (bytesA s p n).num, .string (bytesA s p n).txt, .int .i64 (bytesA s p n).long], .int .i64 (bytesA s p n).code]) ∧ Below w.heap.size w w' := by
  by_cases h1 : n < 0
  · rw [show bytesA s p n = .bad 1 from if_pos h1]
    show Calls _ _ _ _ fun e w' => e = .returned (.tuple #[.agg #[.int .i64 0, .string ⟨#[]⟩, .int .i64 0], .int .i64 1]) ∧ _
    go_enter Try.func38, Try.ntmps38
    go_wp2
    exact bodyPost_ret (v := .tuple #[.agg #[.int .i64 0, .string ⟨#[]⟩, .int .i64 0], .int .i64 1]) (by simp [results, Try.results38, go_sem]) rfl ⟨rfl, (Below.refl _ _).alloc (Nat.le_refl _) _⟩
  obtain ⟨k, rfl⟩ := Int.eq_ofNat_of_zero_le (show 0 ≤ n by omega)
  have hl := hr.lt
  have hr1 : Rd 52 (w.alloc (.cells #[.int .i64 0, .string ⟨#[]⟩, .int .i64 0] 54)) b s p x := hr.below ((Below.refl _ _).alloc (Nat.le_refl _) _) hl
  by_cases h2 : (s.size : Int) - p < k
  · rw [show bytesA s p k = .bad 10 from by unfold bytesA; rw [if_neg h1, if_pos h2]]
    show Calls _ _ _ _ fun e w' => e = .returned (.tuple #[.agg #[.int .i64 0, .string ⟨#[]⟩, .int .i64 0], .int .i64 10]) ∧ _
    go_enter Try.func38, Try.ntmps38
    go_wp2_with fail
    refine (left_any hr1 hp hs).mono ?_
    rintro e w1 ⟨rfl, nd, rfl⟩
    go_wp2
    have F := ((Fd.new w 0 ⟨#[]⟩ 0).drewN nd).put 0 ⟨#[]⟩ 0
    exact bodyPost_ret (v := .tuple #[.agg #[.int .i64 0, .string ⟨#[]⟩, .int .i64 0], .int .i64 10]) (by simp [results, Try.results38, go_sem, F.cell0, F.cell1, F.cell2]) rfl ⟨rfl, below_put (below_drew ((Below.refl _ _).alloc (Nat.le_refl _) _) nd) (Nat.le_refl _) _ _ _⟩
  · have hk : ((p : Int) + k) ≤ s.size := by omega
    rw [show bytesA s p k = ⟨0, s.extract p (p + k), k, 0⟩ from by unfold bytesA; rw [if_neg h1, if_neg h2]; simp]
    show Calls _ _ _ _ fun e w' => e = .returned (.tuple #[.agg #[.int .i64 0, .string (s.extract p (p + k)), .int .i64 k], .int .i64 0]) ∧ _
    have c0 := hr.cell0
    have c1 := hr.cell1
    go_enter Try.func38, Try.ntmps38
    go_wp2_with fail
    refine (left_any hr1 hp hs).mono ?_
    rintro e w1 ⟨rfl, nd, rfl⟩
    go_wp2
    go_region
    go_wp2
    have F := ((Fd.new w 0 ⟨#[]⟩ 0).drewN (nd + 1)).put 0 (s.extract p (p + k)) k
    exact bodyPost_ret (v := .tuple #[.agg #[.int .i64 0, .string (s.extract p (p + k)), .int .i64 k], .int .i64 0]) (by simp [results, Try.results38, go_sem, F.cell0, F.cell1, F.cell2]) rfl ⟨rfl, below_put (below_drew ((Below.refl _ _).alloc (Nat.le_refl _) _) (nd + 1)) (Nat.le_refl _) _ _ _⟩

theorem bytesAhead_short {w : World} {b : Nat} {s : ByteArray} {p : Nat} {x : Int} (k : Nat) (hr : Rd 52 w b s p x) (hp : p ≤ s.size) (hs : s.size ≤ 140737488355328) (hn : (k : Int) ≤ 9223372036854775807) (h : (s.size : Int) - p < k) :
    Calls Try.prog 38 #[.pointer (some ⟨b, 0, none⟩), .int .i64 k] w fun e w' =>
      e = .returned (.tuple #[.agg #[.int .i64 0, .string ⟨#[]⟩, .int .i64 0], .int .i64 10]) ∧ Below w.heap.size w w' := by
  have hc := bytesAhead_any k hr hp hs hn
  rw [show bytesA s p k = .bad 10 from by unfold bytesA; rw [if_neg (by omega), if_pos h]] at hc
  exact hc
theorem bytesAhead_ok {w : World} {b : Nat} {s : ByteArray} {p : Nat} {x : Int} (k : Nat) (hr : Rd 52 w b s p x) (hp : p + k ≤ s.size) (hs : s.size ≤ 140737488355328) :
    Calls Try.prog 38 #[.pointer (some ⟨b, 0, none⟩), .int .i64 k] w fun e w' =>
      e = .returned (.tuple #[.agg #[.int .i64 0, .string (s.extract p (p + k)), .int .i64 k], .int .i64 0]) ∧ Below w.heap.size w w' := by
  have hc := bytesAhead_any k hr (by omega) hs (by omega)
  rw [show bytesA s p k = ⟨0, s.extract p (p + k), k, 0⟩ from by unfold bytesA; rw [if_neg (by omega), if_neg (by omega)]; simp] at hc
  exact hc

set_option maxRecDepth 100000 in
set_option maxHeartbeats 400000 in
theorem fixedAhead_any {w : World} {b : Nat} {s : ByteArray} {p : Nat} {x : Int} (n : Int) (hr : Rd 52 w b s p x) (hp : p ≤ s.size) (hs : s.size ≤ 140737488355328) (hn : n ≤ 9223372036854775807) :
    Calls Try.prog 35 #[.pointer (some ⟨b, 0, none⟩), .int .i64 n] w fun e w' =>
      e = .returned (.tuple #[.agg #[.int .i64 (fixedA s p n).num, .string (fixedA s p n).txt, .int .i64 (fixedA s p n).long], .int .i64 (fixedA s p n).code]) ∧ Below w.heap.size w w' := by
  by_cases h1 : n < 1
  · rw [show fixedA s p n = .bad 1 from if_pos (.inl h1)]
    show Calls _ _ _ _ fun e w' => e = .returned (.tuple #[.agg #[.int .i64 0, .string ⟨#[]⟩, .int .i64 0], .int .i64 1]) ∧ _
    go_enter Try.func35, Try.ntmps35
    go_wp2
    exact bodyPost_ret (v := .tuple #[.agg #[.int .i64 0, .string ⟨#[]⟩, .int .i64 0], .int .i64 1]) (by simp [results, Try.results35, go_sem]) rfl ⟨rfl, (Below.refl _ _).alloc (Nat.le_refl _) _⟩
  by_cases h7 : 7 < n
  · rw [show fixedA s p n = .bad 1 from if_pos (.inr h7)]
    show Calls _ _ _ _ fun e w' => e = .returned (.tuple #[.agg #[.int .i64 0, .string ⟨#[]⟩, .int .i64 0], .int .i64 1]) ∧ _
    go_enter Try.func35, Try.ntmps35
    go_wp2
    exact bodyPost_ret (v := .tuple #[.agg #[.int .i64 0, .string ⟨#[]⟩, .int .i64 0], .int .i64 1]) (by simp [results, Try.results35, go_sem]) rfl ⟨rfl, (Below.refl _ _).alloc (Nat.le_refl _) _⟩
  obtain ⟨k, rfl⟩ := Int.eq_ofNat_of_zero_le (show 0 ≤ n by omega)
  have hl := hr.lt
  have hr1 : Rd 52 (w.alloc (.cells #[.int .i64 0, .string ⟨#[]⟩, .int .i64 0] 54)) b s p x := hr.below ((Below.refl _ _).alloc (Nat.le_refl _) _) hl
  by_cases h2 : (s.size : Int) - p < k
  · rw [show fixedA s p k = .bad 10 from by unfold fixedA; rw [if_neg (by omega), if_pos h2]]
    show Calls _ _ _ _ fun e w' => e = .returned (.tuple #[.agg #[.int .i64 0, .string ⟨#[]⟩, .int .i64 0], .int .i64 10]) ∧ _
    go_enter Try.func35, Try.ntmps35
    go_wp2_with fail
    refine (bytesAhead_short k hr1 hp hs hn h2).mono ?_
    rintro e w1 ⟨rfl, hb1⟩
    have z1 : w.heap.size < w1.heap.size := by have := hb1.size; simp only [World.size_alloc] at this; omega
    have F := (Fd.new w 0 ⟨#[]⟩ 0).below hb1 (by simp)
    have a0 := F.cell0
    have a1 := F.cell1
    have a2 := F.cell2
    have f0 := F.free 0
    have f1 := F.free 1
    have f2 := F.free 2
    go_wp2
    have G := (F.put 0 ⟨#[]⟩ 0).alloc (.cells #[.int .i64 0, .string ⟨#[]⟩, .int .i64 0] 54)
    exact bodyPost_ret (v := .tuple #[.agg #[.int .i64 0, .string ⟨#[]⟩, .int .i64 0], .int .i64 10]) (by simp [results, Try.results35, go_sem, G.cell0, G.cell1, G.cell2]) rfl
      ⟨rfl, (below_put (((Below.refl _ _).alloc (Nat.le_refl _) _).trans (hb1.mono (by simp))) (Nat.le_refl _) _ _ _).alloc (by simp; omega) _⟩
  · have hk : p + k ≤ s.size := by omega
    rw [show fixedA s p k = ⟨numOf (s.extract p (p + k)).data.toList, ⟨#[]⟩, k, 0⟩ from by unfold fixedA; rw [if_neg (by omega), if_neg h2]; simp]
    show Calls _ _ _ _ fun e w' => e = .returned (.tuple #[.agg #[.int .i64 (numOf (s.extract p (p + k)).data.toList), .string ⟨#[]⟩, .int .i64 k], .int .i64 0]) ∧ _
    have ht : (s.extract p (p + k)).size = k := by simp; omega
    generalize hN : numOf (s.extract p (p + k)).data.toList = N
    have HN : Hid (numOf (s.extract p (p + k)).data.toList = N) := hN
    clear hN
    go_enter Try.func35, Try.ntmps35
    go_wp2_with fail
    refine (bytesAhead_ok k hr1 hk hs).mono ?_
    rintro e w1 ⟨rfl, hb1⟩
    generalize s.extract p (p + k) = t at *
    have z1 : w.heap.size < w1.heap.size := by have := hb1.size; simp only [World.size_alloc] at this; omega
    have F := (Fd.new w 0 ⟨#[]⟩ 0).below hb1 (by simp)
    have a0 := F.cell0
    have a1 := F.cell1
    have a2 := F.cell2
    have f0 := F.free 0
    have f1 := F.free 1
    have f2 := F.free 2
    have HT : Hid (t.size = k) := ht
    clear ht
    go_wp2
    go_loop [8, 28] (fun n i => ∃ j : Nat, j ≤ k ∧ i = .int .i64 j ∧ n = .int .i64 (numOf (t.data.toList.take j) : Nat)) (fun _ i => k - (intOf i).toNat)
    case atStart => exact ⟨0, Nat.zero_le _, rfl, rfl⟩
    case round =>
      obtain ⟨j, hj, rfl, rfl⟩ := hrel
      by_cases hlt : j < k
      · have hjt : j < t.size := by rw [HT.out]; exact hlt
        have R : Hid (wrap64 ((numOf (t.data.toList.take j) : Nat) * 256) = ((numOf (t.data.toList.take j) * 2 ^ 8 : Nat) : Int) ∧ wrap64 (t[j].toNat : Int) = t[j].toNat ∧
            bits .or .i64 ((numOf (t.data.toList.take j) * 2 ^ 8 : Nat) : Int) (t[j].toNat : Int) = ((numOf (t.data.toList.take (j + 1)) : Nat) : Int)) := by
          have hb := numOf_take_lt t j 6 (by omega)
          have hb' : numOf (t.data.toList.take j) < 281474976710656 := hb
          have hc := t[j].toNat_lt
          refine ⟨?_, IntWalk.wrap64_in _ ⟨by omega, by omega⟩, ?_⟩
          · rw [IntWalk.wrap64_in _ ⟨by omega, by omega⟩]; omega
          · rw [or_high _ _ 8 (by simpa using hc) (by omega) (by omega), numOf_take t j hjt]
        go_wp2
        go_round
        case rel => exact ⟨j + 1, by omega, by go_num, by rw [R.out.1, R.out.2.1, R.out.2.2]⟩
        case measure => simp [intOf]; omega
      · have hjk : j = k := by omega
        subst hjk
        have hNt : numOf (t.data.toList.take j) = N := by
          rw [take_all t j HT.out]; exact HN.out
        rw [hNt]
        clear hNt
        go_wp2
        have G := (F.put N ⟨#[]⟩ j).alloc (.cells #[.int .i64 0, .string t, .int .i64 j] 54)
        exact bodyPost_ret (v := .tuple #[.agg #[.int .i64 N, .string ⟨#[]⟩, .int .i64 j], .int .i64 0]) (by simp [results, Try.results35, go_sem, G.cell0, G.cell1, G.cell2]) rfl
          ⟨rfl, (below_put (((Below.refl _ _).alloc (Nat.le_refl _) _).trans (hb1.mono (by simp))) (Nat.le_refl _) _ _ _).alloc (by simp; omega) _⟩

end Go.Proofs.Ytifbcmcefggofaa

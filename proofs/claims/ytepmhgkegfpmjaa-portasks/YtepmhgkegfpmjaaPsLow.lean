/-
  The program's store: names that may be, what is wrong, what an object uses, New.
-/
import Derived.Test.YtepmhgkegfpmjaaPsMem
namespace Go.Proofs.Ytepmhgkegfpmjaa
open Go.RowKit Go.Lib Go.Maps

/-- What is wrong with a name and data. -/
def fcode (n d : ByteArray) : Int := if mayB n = true then (if d.size ≤ 131072 then 0 else 2) else 3

set_option maxRecDepth 100000 in
set_option maxHeartbeats 800000 in
theorem size_any (n d : ByteArray) (x : Nat) (hx : Hid (x = n.size + d.size)) (h : n.size + d.size ≤ 9223372036854775807) (w : World) : Calls Try.prog 74 #[.string n, .string d] w fun e w' => e = .returned (.int .i64 (x : Int)) ∧ w' = w := by
  have hs : IntKind.i64.wrap ((n.size : Int) + (d.size : Int)) = (x : Int) := by rw [hx.out]; simp [IntKind.wrap_i64]; omega
  have h1 : n.size ≤ 9223372036854775807 := by omega
  have h2 : d.size ≤ 9223372036854775807 := by omega
  clear hx
  go_enter Try.func74, Try.ntmps74
  go_wp2
  go_ret
  exact ⟨rfl, rfl⟩

set_option maxRecDepth 100000 in
set_option maxHeartbeats 800000 in
theorem mayBe_any (n : ByteArray) (w : World) (hs : n.size ≤ 9223372036854775807) : Calls Try.prog 87 #[.string n] w fun e w' => e = .returned (.bool (mayB n)) ∧ w' = w := by
  by_cases h0 : n.size = 0
  · have e0 : n = ⟨#[]⟩ := ByteArray.ext (Array.eq_empty_of_size_eq_zero h0)
    subst e0
    go_enter Try.func87, Try.ntmps87
    go_wp2
    go_ret
    exact ⟨rfl, rfl⟩
  have hz0 : ¬ (n.size : Int) = 0 := by omega
  by_cases h1 : (96 : Int) < (n.size : Int)
  · have hm : mayB n = false := by rw [mayB, decide_eq_false (show ¬ n.size ≤ 96 by omega)]; simp
    rw [hm]
    go_enter Try.func87, Try.ntmps87
    go_wp2
    go_ret
    exact ⟨rfl, rfl⟩
  have hmb : mayB n = n.data.toList.all okB := by rw [mayB, decide_eq_true (show 1 ≤ n.size by omega), decide_eq_true (show n.size ≤ 96 by omega)]; simp
  obtain ⟨V, hV⟩ : ∃ V, V = mayB n := ⟨_, rfl⟩
  rw [← hV]
  have HV := hide (hV.trans hmb)
  clear hmb hV
  go_enter Try.func87, Try.ntmps87
  go_wp2
  go_loop [14] (fun i => ∃ j : Nat, j ≤ n.size ∧ i = .int .i64 j ∧ (n.data.toList.take j).all okB = true) (fun i => n.size - (intOf i).toNat)
  case atStart => exact ⟨0, Nat.zero_le _, rfl, rfl⟩
  case round =>
    obtain ⟨j, hj, rfl, hA⟩ := hrel
    by_cases hlt : j < n.size
    · have hlt' : (j : Int) < (n.size : Int) := by omega
      have HA := hide hA
      have HT := hide (take_snoc n j hlt)
      have HM : Hid (n[j] ∈ n.data.toList) := List.getElem_mem (l := n.data.toList) (n := j) (by simpa using hlt)
      clear hA
      by_cases h2 : n[j].toNat ≤ 32
      · have hf : Hid (n.data.toList.all okB = false) := by
          show n.data.toList.all okB = false
          rw [List.all_eq_false]
          exact ⟨n[j], HM.out, by rw [okB, decide_eq_false (by omega)]; simp⟩
        have hz : (n[j].toNat : Int) ≤ 32 := by omega
        go_wp2
        go_ret
        exact ⟨by rw [HV.out.trans hf.out]; rfl, rfl⟩
      by_cases h3 : 127 ≤ n[j].toNat
      · have hf : Hid (n.data.toList.all okB = false) := by
          show n.data.toList.all okB = false
          rw [List.all_eq_false]
          exact ⟨n[j], HM.out, by rw [okB, decide_eq_false (show ¬ n[j].toNat < 127 by omega)]; simp⟩
        have hz : ¬ (n[j].toNat : Int) ≤ 32 := by omega
        have hz2 : (127 : Int) ≤ (n[j].toNat : Int) := by omega
        go_wp2
        go_ret
        exact ⟨by rw [HV.out.trans hf.out]; rfl, rfl⟩
      have hz : ¬ (n[j].toNat : Int) ≤ 32 := by omega
      have hz2 : ¬ (127 : Int) ≤ (n[j].toNat : Int) := by omega
      have HN : Hid ((n.data.toList.take (j + 1)).all okB = true) := by
        show (n.data.toList.take (j + 1)).all okB = true
        rw [HT.out, List.all_append, HA.out, List.all_cons, okB, decide_eq_true (by omega), decide_eq_true (by omega)]
        rfl
      clear HT HA HM
      go_wp2
      go_round
      case rel => exact ⟨j + 1, by omega, by go_num, HN.out⟩
      case measure => simp [intOf]; omega
    · obtain rfl : j = n.size := by omega
      have hf : Hid (n.data.toList.all okB = true) := by
        show n.data.toList.all okB = true
        rw [← hA, List.take_of_length_le (by simp)]
      go_wp2
      go_ret
      exact ⟨by rw [HV.out.trans hf.out]; rfl, rfl⟩

set_option maxRecDepth 100000 in
set_option maxHeartbeats 800000 in
theorem fault_any (n d : ByteArray) (w : World) (hn : n.size ≤ 9223372036854775807) (hd : d.size ≤ 9223372036854775807) : Calls Try.prog 72 #[.string n, .string d] w fun e w' => e = .returned (.int .i64 (fcode n d)) ∧ w' = w := by
  have HM : Hid _ := hide (mayBe_any n w hn)
  obtain ⟨C, hC⟩ : ∃ C, C = fcode n d := ⟨_, rfl⟩
  rw [← hC]
  have HC := hide hC
  clear hC
  go_enter Try.func72, Try.ntmps72
  go_wp2_with fail
  refine HM.out.mono ?_
  rintro e w' ⟨rfl, rfl⟩
  clear HM
  cases hm : mayB n with
  | false =>
    have hc : C = 3 := by rw [HC.out, fcode, hm]; rfl
    subst hc
    go_wp2
    go_ret
    exact ⟨rfl, rfl⟩
  | true =>
    by_cases h : d.size ≤ 131072
    · have hc : C = 0 := by rw [HC.out, fcode, hm, if_pos rfl, if_pos h]
      subst hc
      have h' : ¬ (131072 : Int) < (d.size : Int) := by omega
      go_wp2
      go_ret
      exact ⟨rfl, rfl⟩
    · have hc : C = 2 := by rw [HC.out, fcode, hm, if_pos rfl, if_neg h]
      subst hc
      have h' : (131072 : Int) < (d.size : Int) := by omega
      go_wp2
      go_ret
      exact ⟨rfl, rfl⟩

set_option maxRecDepth 100000 in
set_option maxHeartbeats 800000 in
theorem new_ok (q : Int) (w : World) (h0 : 0 ≤ q) (h1 : q ≤ 1073741824) :
    Calls Try.prog 29 #[.int .i64 q] w fun e w' => e = .returned (.tuple #[.pointer (some ⟨w.heap.size + 1, 0, none⟩), .int .i64 0]) ∧ PS w' (w.heap.size + 1) w.heap.size q 0 false 0 [] ∧ Below w.heap.size w w' := by
  have h2 : ¬ q < 0 := by omega
  have h3 : ¬ 1073741824 < q := by omega
  have hmk : (Instr.makeMap 98 none).run Try.prog w = .ok (.map (some w.heap.size)) (w.alloc (.map #[] 0)) := rfl
  go_enter Try.func29, Try.ntmps29
  go_wp2
  go_ret2
  have hb1 : Below w.heap.size w (w.alloc (.map #[] 0)) := (Below.refl _ _).alloc (Nat.le_refl _) _
  refine ⟨by simp, ?_, hb1.alloc (by simp) _⟩
  refine ⟨?_, ?_, List.Pairwise.nil, fun p hp => by cases hp⟩
  · have := heap_alloc_new (w.alloc (.map #[] 0)) (.cells #[.map (some w.heap.size), .int .i64 ((usedL [] : Nat) : Int), .int .i64 q, .int .i64 0, .bool false, .int .i64 0] 105 (0, 0))
    rw [show (w.alloc (.map #[] 0)).heap.size = w.heap.size + 1 by simp] at this
    exact this
  · exact (MO.made w).below ((Below.refl _ _).alloc (Nat.le_refl _) _) (by simp)

set_option maxRecDepth 100000 in
set_option maxHeartbeats 800000 in
theorem new_bad (q : Int) (w : World) (h : q < 0 ∨ 1073741824 < q) :
    Calls Try.prog 29 #[.int .i64 q] w fun e w' => e = .returned (.tuple #[.pointer none, .int .i64 1]) ∧ w' = w := by
  by_cases h2 : q < 0
  · go_enter Try.func29, Try.ntmps29
    go_wp2
    go_ret2
    exact ⟨rfl, rfl⟩
  · have h3 : 1073741824 < q := by omega
    go_enter Try.func29, Try.ntmps29
    go_wp2
    go_ret2
    exact ⟨rfl, rfl⟩
end Go.Proofs.Ytepmhgkegfpmjaa

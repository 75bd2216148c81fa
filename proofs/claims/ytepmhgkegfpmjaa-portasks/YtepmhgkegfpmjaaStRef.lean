/-
  The document's store: names, places, what is got, what is used.
-/
import Derived.Test.YtepmhgkegfpmjaaStKit
namespace Go.Proofs.Ytepmhgkegfpmjaa
open Go.RowKit Go.Lib

set_option maxRecDepth 100000 in
set_option maxHeartbeats 800000 in
theorem rname_any (n : ByteArray) (w : World) (hs : n.size ≤ 9223372036854775807) : Calls Try.prog 64 #[.string n] w fun e w' => e = .returned (.bool (mayB n)) ∧ w' = w := by
  by_cases h0 : n.size = 0
  · have e0 : n = ⟨#[]⟩ := ByteArray.ext (Array.eq_empty_of_size_eq_zero h0)
    subst e0
    go_enter Try.func64, Try.ntmps64
    go_wp2
    go_ret
    exact ⟨rfl, rfl⟩
  have hne : ¬ n.toList = [] := by rw [bytes_list]; intro e; exact h0 (by have := congrArg List.length e; simpa using this)
  have hne2 : n.toList.isEmpty = false := by simpa using hne
  by_cases h1 : (96 : Int) < (n.size : Int)
  · have hm : mayB n = false := by rw [mayB, decide_eq_false (show ¬ n.size ≤ 96 by omega)]; simp
    rw [hm]
    go_enter Try.func64, Try.ntmps64
    go_wp2
    go_ret
    exact ⟨rfl, rfl⟩
  have hmb : mayB n = n.data.toList.all okB := by rw [mayB, decide_eq_true (show 1 ≤ n.size by omega), decide_eq_true (show n.size ≤ 96 by omega)]; simp
  obtain ⟨V, hV⟩ : ∃ V, V = mayB n := ⟨_, rfl⟩
  rw [← hV]
  have HV := hide (hV.trans hmb)
  clear hmb hV
  go_enter Try.func64, Try.ntmps64
  go_wp2
  go_loop [3] (fun i => ∃ j : Nat, j ≤ n.size ∧ i = .int .i64 j ∧ (n.data.toList.take j).all okB = true) (fun i => n.size - (intOf i).toNat)
  case atStart => exact ⟨0, Nat.zero_le _, rfl, rfl⟩
  case round =>
    obtain ⟨j, hj, rfl, hA⟩ := hrel
    by_cases hlt : j < n.size
    · have HA := hide hA
      have HT := hide (take_snoc n j hlt)
      have HM : Hid (n[j] ∈ n.data.toList) := List.getElem_mem (l := n.data.toList) (n := j) (by simpa using hlt)
      clear hA
      by_cases h2 : n[j].toNat ≤ 32
      · have hf : Hid (n.data.toList.all okB = false) := by
          show n.data.toList.all okB = false
          rw [List.all_eq_false]
          exact ⟨n[j], HM.out, by rw [okB, decide_eq_false (by omega)]; simp⟩
        have hz : (n[j].toNat : Int) ≤ 32 := by omega
        go_wp2
        go_ret
        exact ⟨by rw [HV.out.trans hf.out]; rfl, rfl⟩
      by_cases h3 : 127 ≤ n[j].toNat
      · have hf : Hid (n.data.toList.all okB = false) := by
          show n.data.toList.all okB = false
          rw [List.all_eq_false]
          exact ⟨n[j], HM.out, by rw [okB, decide_eq_false (show ¬ n[j].toNat < 127 by omega)]; simp⟩
        have hz : ¬ (n[j].toNat : Int) ≤ 32 := by omega
        have hz2 : (127 : Int) ≤ (n[j].toNat : Int) := by omega
        go_wp2
        go_ret
        exact ⟨by rw [HV.out.trans hf.out]; rfl, rfl⟩
      have hz : ¬ (n[j].toNat : Int) ≤ 32 := by omega
      have hz2 : ¬ (127 : Int) ≤ (n[j].toNat : Int) := by omega
      have HN : Hid ((n.data.toList.take (j + 1)).all okB = true) := by
        show (n.data.toList.take (j + 1)).all okB = true
        rw [HT.out, List.all_append, HA.out, List.all_cons, okB, decide_eq_true (by omega), decide_eq_true (by omega)]
        rfl
      clear HT HA HM
      go_wp2
      go_round
      case rel => exact ⟨j + 1, by omega, by go_num, HN.out⟩
      case measure => simp [intOf]; omega
    · obtain rfl : j = n.size := by omega
      have hf : Hid (n.data.toList.all okB = true) := by
        show n.data.toList.all okB = true
        rw [← hA, List.take_of_length_le (by simp)]
      go_wp2
      go_ret
      exact ⟨by rw [HV.out.trans hf.out]; rfl, rfl⟩
end Go.Proofs.Ytepmhgkegfpmjaa

/-
  SdMLaw: texts of earlier layers, laid over this program.
-/
import Derived.Test.YtklaeocnimkboaaGreatDoorSdRefMake
import Derived.Test.YtklaeocnimkboaaGreatDoorSdBack
import Derived.Deep.DeepCutAuto
namespace Go.Proofs.YtklaeocnimkboaaGreatDoor
open Go.RowKit Go.Lib

set_option maxRecDepth 100000 in
theorem spoil_nil (w : World) : Calls Tryz.prog 10 #[.slice none 0 0] w fun e w' => e = .returned (.tuple #[]) ∧ w' = w := by
  go_enter Tryz.func10, Tryz.ntmps10
  go_wp2
  go_loopw [2] (fun z wr => z = .int .i64 0 ∧ wr = w) (fun _ _ => 0)
  case atStart => exact ⟨rfl, rfl⟩
  case round =>
    obtain ⟨rfl, rfl⟩ := hrel
    go_wp2
    go_end0
    exact ⟨rfl, rfl⟩

set_option maxRecDepth 100000 in
set_option maxHeartbeats 3200000 in
theorem shmakes_walk (k m : Int) (s : ByteArray) (hm : m ≤ 9223372036854775807) (w : World) (hL : Sh.Laid w) :
    Calls Tryz.prog 3 #[.int .i64 k, .int .i64 m, .string s] w fun e w' => e = .returned (.bool true) ∧ Below w.heap.size w w' := by
  have HM := hide hm
  have HL := hide hL
  clear hm hL
  go_enter Tryz.func3, Tryz.ntmps3
  go_upto_region 1 with fail
  go_cut [35] (fun u wx => wx = w ∧ (u = .bool true ∨ (u = .bool false ∧ ¬ (6 < k ∧ k ≤ 255) ∧ ¬ (6 < m ∧ m ≤ 255) ∧ ¬ (300 < s.size ∧ s.size ≤ 65536))))
  case first =>
    have T : ∀ P Q : Prop, [Decidable P] → [Decidable Q] → ¬ (P ∧ Q) → ¬ P ∨ (P ∧ ¬ Q) := fun P Q _ _ h => by
      by_cases p : P
      · exact .inr ⟨p, fun q => h ⟨p, q⟩⟩
      · exact .inl p
    by_cases hk : 6 < k ∧ k ≤ 255
    · obtain ⟨h1, h2⟩ := hk
      clear T
      go_wp2
      go_meet
      case rel => exact ⟨rfl, .inl rfl⟩
    have hk' := T _ _ hk
    have HKk := hide hk
    clear hk
    by_cases hm : 6 < m ∧ m ≤ 255
    · obtain ⟨h3, h4⟩ := hm
      clear T
      rcases hk' with h1 | ⟨h1, h2⟩
      all_goals
        go_wp2
        go_meet
        case rel => exact ⟨rfl, .inl rfl⟩
    have hm' := T _ _ hm
    have HMm := hide hm
    clear hm
    by_cases hs : (300 : Int) < (s.size : Int) ∧ (s.size : Int) ≤ 65536
    · obtain ⟨h5, h6⟩ := hs
      clear T
      rcases hk' with h1 | ⟨h1, h2⟩ <;> rcases hm' with h3 | ⟨h3, h4⟩
      all_goals
        go_wp2
        go_meet
        case rel => exact ⟨rfl, .inl rfl⟩
    have hs' := T _ _ hs
    have HSs : Hid (¬ (300 < s.size ∧ s.size ≤ 65536)) := fun h => hs (by omega)
    clear hs T
    rcases hk' with h1 | ⟨h1, h2⟩ <;> rcases hm' with h3 | ⟨h3, h4⟩ <;> rcases hs' with h5 | ⟨h5, h6⟩
    all_goals
      go_wp2
      go_meet
      case rel => exact ⟨rfl, .inr ⟨by first | rfl | simp [*], HKk.out, HMm.out, HSs.out⟩⟩
  case rest =>
  obtain ⟨hw, hu⟩ := hcut
  subst hw
  rcases hu with rfl | ⟨rfl, hk, hm, hs⟩
  · go_wp2_with fail
    refine (sworks_any _).mono ?_
    rintro e w1 ⟨rfl, hw1⟩
    subst w1
    go_wp2
    go_ret
    exact ⟨rfl, Below.refl _ _⟩
  by_cases hv : 1 ≤ k ∧ 0 ≤ m ∧ k ≤ 255 - m
  case neg =>
    have hbad : k < 1 ∨ m < 0 ∨ 255 - m < k := by omega
    have HBad := hide hbad
    clear hbad hv hk hm hs
    go_wp2_with fail
    refine (make_bad k m s HM.out HBad.out).mono ?_
    rintro e w1 ⟨rfl, hb1⟩
    have HB1 := hide hb1
    clear hb1
    go_wp2_with fail
    refine (rmake_bad k m s HBad.out).mono ?_
    rintro e w2 ⟨rfl, hb2⟩
    have HB2 := hide (below_step HB1.out hb2)
    clear hb2 HB1
    go_wp2_with fail
    refine (Fd.same_any (n := 0) (X := fun _ => ⟨#[]⟩) ⟨none, 0, rfl, .inl rfl⟩ ⟨none, 0, rfl, .inl rfl⟩ (by decide)).mono ?_
    rintro e w3 ⟨rfl, nd, hw3⟩
    have HB3 : Hid (Below wc.heap.size wc w3) := by rw [hw3]; exact below_drew HB2.out nd
    clear hw3 HB2
    go_wp2_with fail
    refine (sworks_any _).mono ?_
    rintro e w4 ⟨rfl, hw4⟩
    subst w4
    go_wp2_with fail
    refine (spoil_nil _).mono ?_
    rintro e w5 ⟨rfl, hw5⟩
    subst w5
    go_wp2
    go_ret
    exact ⟨rfl, HB3.out⟩
  case pos =>
  obtain ⟨k', rfl⟩ : ∃ n : Nat, k = n := ⟨k.toNat, by omega⟩
  obtain ⟨m', rfl⟩ : ∃ n : Nat, m = n := ⟨m.toNat, by omega⟩
  have k1 : 1 ≤ k' := by omega
  have km : k' + m' ≤ 255 := by omega
  have HKM := hide (And.intro k1 km)
  clear hv hk hm k1 km
  by_cases hlong : 65536 < s.size
  case pos =>
    have HLG := hide hlong
    clear hlong hs
    go_wp2_with fail
    refine (make_long HKM.out.1 HKM.out.2 HLG.out).mono ?_
    rintro e w1 ⟨rfl, hb1⟩
    have HB1 := hide hb1
    clear hb1
    go_wp2_with fail
    refine (rmake_long HKM.out.1 HKM.out.2 HLG.out).mono ?_
    rintro e w2 ⟨rfl, hb2⟩
    have HB2 := hide (below_step HB1.out hb2)
    clear hb2 HB1
    go_wp2_with fail
    refine (Fd.same_any (n := 0) (X := fun _ => ⟨#[]⟩) ⟨none, 0, rfl, .inl rfl⟩ ⟨none, 0, rfl, .inl rfl⟩ (by decide)).mono ?_
    rintro e w3 ⟨rfl, nd, hw3⟩
    have HB3 : Hid (Below wc.heap.size wc w3) := by rw [hw3]; exact below_drew HB2.out nd
    clear hw3 HB2
    go_wp2_with fail
    refine (sworks_any _).mono ?_
    rintro e w4 ⟨rfl, hw4⟩
    subst w4
    go_wp2_with fail
    refine (spoil_nil _).mono ?_
    rintro e w5 ⟨rfl, hw5⟩
    subst w5
    go_wp2
    go_ret
    exact ⟨rfl, HB3.out⟩
  case neg =>
  have HSZ : Hid (s.size ≤ 65536) := by show s.size ≤ 65536; omega
  obtain ⟨n, hn⟩ : ∃ n, n = k' + m' := ⟨_, rfl⟩
  have hnb : n ≤ 255 := by have := HKM.out; omega
  have HN := hide hn
  clear hlong hs hn
  go_wp2_with fail
  refine (make_ok HL.out HKM.out.1 HKM.out.2 HSZ.out).mono ?_
  rintro e w1 ⟨q, rfl, hS, hq, hb1⟩
  rw [← HN.out] at hS ⊢
  have HB1 := hide hb1
  have HS1 := hide hS
  have HQ := hide hq
  clear hb1 hS hq
  go_wp2_with fail
  refine (rmake_ok HKM.out.1 HKM.out.2 HSZ.out).mono ?_
  rintro e w2 ⟨a, c, rfl, hT, hb2⟩
  rw [← HN.out] at hT ⊢
  have HB2 := hide (below_step HB1.out hb2)
  have HS2 := hide (HS1.out.below hb2 (Nat.le_refl _))
  have HT2 := hide hT
  clear hb2 hT HB1 HS1
  go_wp2_with fail
  refine (Fd.same_any (HS2.out.tx n) HT2.out (by omega)).mono ?_
  rintro e w3 ⟨rfl, nd, hw3⟩
  have HB3 : Hid (Below wc.heap.size wc w3) := by rw [hw3]; exact below_drew HB2.out nd
  have HS3 : Hid (SB w3 q n (shB k' m' s)) := by rw [hw3]; exact HS2.out
  clear hw3 HB2 HS2 HT2
  go_wp2_with fail
  refine (sworks_any _).mono ?_
  rintro e w4 ⟨rfl, hw4⟩
  subst w4
  go_wp2_with fail
  refine (spoil_any HS3.out (by omega)).mono ?_
  rintro e w5 ⟨rfl, hg5⟩
  have HB5 := hide (below_gb HB3.out hg5 HQ.out HB3.out.size)
  clear hg5
  go_wp2
  go_ret
  exact ⟨rfl, HB5.out⟩
end Go.Proofs.YtklaeocnimkboaaGreatDoor


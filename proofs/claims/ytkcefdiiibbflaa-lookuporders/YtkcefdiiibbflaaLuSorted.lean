/-
  Lookup: items sorted, each once.
-/
import Derived.Test.YtkcefdiiibbflaaLuSort
import Derived.Test.YtkcefdiiibbflaaLuComp
import Derived.Shelf.SlSortCmp.NoneTotal
namespace Go.Proofs.Ytkcefdiiibbflaa
open Go.RowKit Go.Lib
theorem sort_none (p : Option Addr) (c : Nat) (w : World) : Calls Try.prog 35 #[.slice p 0 c, .func (.func 13) #[] #[]] w fun e w' => e = .returned (.tuple #[]) ∧ w' = w :=
  AnyF.slices_SortFunc_none Try.sortIt p c (.func (.func 13) #[] #[]) w
/-- What sorting leaves. -/
def SO (w : World) (l : List IT) (v : Value) (w' : World) : Prop :=
  ∃ M : List IT, SS M ∧ (∀ x, x ∈ M ↔ x ∈ l) ∧ M.length ≤ l.length ∧ Below w.heap.size w w' ∧ ((M = [] ∧ ∃ a c, v = .slice a 0 c) ∨ ∃ g N c, v = .slice (some ⟨g, 0, none⟩) M.length c ∧ w.heap.size ≤ g ∧ SG w' g 0 N M ∧ M.length ≤ c ∧ c ≤ 9223372036854775807)
theorem dd_len' (L : List IT) : (dd L).length ≤ L.length := by
  cases L with
  | nil => exact Nat.le_refl _
  | cons x r => exact Nat.succ_le_succ (dd_len r x)
section
variable {r : Nat → Prop} {w : World} {v : Value} {l : List IT}
set_option maxRecDepth 100000 in
set_option maxHeartbeats 1600000 in
theorem sorted_any (hl : LS it6 6 r w v l) (hn : l.length ≤ 1000) :
    Calls Try.prog 22 #[v] w fun e w' => ∃ u, e = .returned u ∧ SO w l u w' := by
  obtain ⟨a, c, hv⟩ := hl.shp
  have HC := hide (cloneI hl (by omega))
  subst hv
  generalize hll : l.length = n at HC
  have HLL := hide hll
  clear hl hll
  go_enter Try.func22, Try.ntmps22
  go_wp2_with fail
  refine HC.out.mono ?_
  rintro e w1 ⟨v1, rfl, hO1, hB1⟩
  rcases ow_sg hO1 with ⟨hl0, rfl⟩ | ⟨g, cap, rfl, hnc, hcm, hBg, hSG⟩
  · have HB1 := hide hB1
    have HL0 := hide hl0
    clear hO1 hB1 hl0
    go_wp2_with fail
    refine (sort_none none 0 w1).mono ?_
    rintro e w2 ⟨rfl, rfl⟩
    go_wp2_with fail
    refine (compact_small (by omega)).mono ?_
    rintro e w3 ⟨rfl, rfl⟩
    go_wp2
    go_ret
    exact ⟨_, rfl, [], SS.nil, by rw [HL0.out]; simp, Nat.zero_le _, HB1.out, .inl ⟨rfl, _, _, rfl⟩⟩
  · have HS := hide (sort_any (c := cap) hSG (by omega))
    have hcm2 : cap ≤ 9223372036854775807 := by unfold maxLen at hcm; omega
    have HB1 := hide (And.intro hB1 hBg)
    rw [HLL.out] at HS hnc
    rw [HLL.out] at hn
    clear hO1 hB1 hSG hBg hcm
    go_wp2_with fail
    rw [HLL.out]
    refine HS.out.mono ?_
    rintro e w2 ⟨rfl, M, hP, hPw, hS2, hG2⟩
    have hMl : M.length = n := by rw [hP.length_eq, HLL.out]
    have hB2 : Below w.heap.size w w2 := hG2.below HB1.out.1 HB1.out.1.size (fun i hi => by rw [hi]; exact HB1.out.2)
    by_cases h2 : n < 2
    · have hSSM : SS M := by
        cases M with
        | nil => exact SS.nil
        | cons x r =>
          cases r with
          | nil => exact List.pairwise_singleton _ _
          | cons y r => simp at hMl; omega
      have HE : Hid (SO w l (.slice (some ⟨g, 0, none⟩) n cap) w2) := hide ⟨M, hSSM, fun x => hP.mem_iff, by rw [hMl, HLL.out]; exact Nat.le_refl _, hB2, .inr ⟨g, _, cap, by rw [hMl], HB1.out.2, hS2, by omega, hcm2⟩⟩
      clear hP hPw hS2 hG2 hMl hB2
      go_wp2_with fail
      refine (compact_small h2).mono ?_
      rintro e w3 ⟨rfl, hw3⟩
      subst hw3
      go_wp2
      go_ret
      exact ⟨_, rfl, HE.out⟩
    · have HK := hide (compact_any (c := cap) hS2 (by omega) (by omega) (by omega) hcm2)
      rw [hMl] at HK
      have HQ := hide (And.intro hP (And.intro hPw (And.intro hMl hB2)))
      clear hP hPw hS2 hG2 hMl hB2
      go_wp2_with fail
      refine HK.out.mono ?_
      rintro e w3 ⟨rfl, hS3, hG3⟩
      have HE : Hid (SO w l (.slice (some ⟨g, 0, none⟩) (dd M).length cap) w3) := by
        obtain ⟨hP, hPw, hMl, hB2⟩ := HQ.out
        have h5 := dd_len' M
        exact hide ⟨dd M, ss_dd hPw, fun x => (mem_dd M x).trans hP.mem_iff, by rw [HLL.out]; omega, hG3.below hB2 hB2.size (fun i hi => by rw [hi]; exact HB1.out.2), .inr ⟨g, _, cap, rfl, HB1.out.2, hS3, by omega, hcm2⟩⟩
      clear hS3 hG3
      go_wp2
      go_ret
      exact ⟨_, rfl, HE.out⟩
end
end Go.Proofs.Ytkcefdiiibbflaa

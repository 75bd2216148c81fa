/-
  The document's names that begin so.
-/
import Derived.Test.YtepmhgkegfpmjaaStOwn
namespace Go.Proofs.Ytepmhgkegfpmjaa
open Go.RowKit Go.Lib

set_option maxRecDepth 100000 in
set_option maxHeartbeats 800000 in
theorem rnames_any {w : World} {b : Nat} {q f m : Int} {off : Bool} {v : Value} {L : List OB} (bg : ByteArray) (hR : RSt w b q f m off v) (hO : OL w v L) (hl : L.length ≤ 1000000) :
    Calls Try.prog 21 #[.pointer (some ⟨b, 0, none⟩), .string bg] w fun e w' => ∃ v', e = .returned v' ∧ TS w.heap.size v' (namesL L bg) w' ∧ Below w.heap.size w w' := by
  obtain ⟨N, hN⟩ : ∃ N, N = L.length := ⟨_, rfl⟩
  have HN := hide hN
  have HR := hide hR
  have HO := hide hO
  have hNl : N ≤ 1000000 := by rw [hN]; exact hl
  clear hN hR hO
  go_enter Try.func21, Try.ntmps21
  go_wp2
  go_loopw [5, 6] (fun vo i wr => ∃ j : Nat, j ≤ N ∧ i = .int .i64 j ∧ TS w.heap.size vo (namesL (L.take j) bg) wr ∧ Below w.heap.size w wr) (fun _ i _ => N - (intOf i).toNat)
  case atStart => exact ⟨0, Nat.zero_le _, rfl, TS.nil _ _, Below.refl _ _⟩
  case round =>
    obtain ⟨j, hj, rfl, hT, hb⟩ := hrel
    have HB := hide hb
    have HT := hide hT
    have y4 := (HR.out.below hb HR.out.lt).cell4
    obtain ⟨a, c, rfl, hC⟩ := HO.out.below hb (Nat.le_refl _)
    rw [← HN.out] at y4
    clear hb hT
    by_cases hlt : j < N
    · have b1 : (j : Int) < (N : Int) := by omega
      have b0 : (0 : Int) ≤ (j : Int) := by omega
      have hjl : j < L.length := by rw [← HN.out]; omega
      obtain ⟨p, hp⟩ : ∃ p, L[j]? = some p := ⟨_, List.getElem?_eq_getElem hjl⟩
      obtain ⟨g, o, rfl, hg, hC⟩ := hC.resolve_left (by intro e; rw [e] at hp; simp at hp)
      have z0 := (hC j p hp).1
      have HS := hide (names_take bg hp)
      have HLn : Hid ((namesL (L.take j) bg).length ≤ N) := Nat.le_trans (names_len _ _) (by rw [List.length_take]; omega)
      generalize p.n = x at *
      clear hC hp
      by_cases h1 : (bg.size : Int) ≤ (x.size : Int)
      · have h0 : (0 : Int) ≤ (bg.size : Int) := by omega
        by_cases h2 : x.extract 0 bg.size = bg
        · have ht : ((x.extract 0 bg.size).toList == bg.toList) = true := by rw [test_eq, decide_eq_true h2]
          have hE : begins bg x = true := by rw [begins, decide_eq_true (by omega), decide_eq_true h2]; rfl
          have HS2 := hide HS.out
          rw [if_pos hE] at HS2
          obtain ⟨v', w', h3, hT3, hB3, _⟩ := HT.out.one x (by have := HLn.out; omega) HB.out.size
          have HT3 : Hid (TS w.heap.size v' (namesL (L.take (j + 1)) bg) w') := by
            show TS w.heap.size v' (namesL (L.take (j + 1)) bg) w'
            rw [HS2.out]; exact hT3
          have HB3 := hide (hB3 w HB.out)
          clear hT3 hB3 HS HS2 HT hE
          go_wp2_with (at_builtin; refine Lib.wpList_append_run _ rfl _ _ _ _ rfl _ _ rfl rfl _ _ h3 ?_)
          exact ⟨⟨j + 1, by omega, by go_num, HT3.out, HB3.out⟩, by simp [intOf]; omega⟩
        · have ht : ((x.extract 0 bg.size).toList == bg.toList) = false := by rw [test_eq, decide_eq_false h2]
          have ht2 : ¬ (x.extract 0 bg.size).toList = bg.toList := by simpa using ht
          have hE : ¬ begins bg x = true := by rw [begins, decide_eq_false h2]; simp
          have HS2 := hide HS.out
          rw [if_neg hE, List.append_nil] at HS2
          have HT3 : Hid (TS w.heap.size u5 (namesL (L.take (j + 1)) bg) wr) := by
            show TS w.heap.size _ (namesL (L.take (j + 1)) bg) wr
            rw [HS2.out]; exact HT.out
          clear HS HS2 HT hE
          go_wp2
          exact ⟨⟨j + 1, by omega, by go_num, HT3.out, HB.out⟩, by simp [intOf]; omega⟩
      · have hE : ¬ begins bg x = true := by rw [begins, decide_eq_false (by omega)]; simp
        have HS2 := hide HS.out
        rw [if_neg hE, List.append_nil] at HS2
        have HT3 : Hid (TS w.heap.size u5 (namesL (L.take (j + 1)) bg) wr) := by
          show TS w.heap.size _ (namesL (L.take (j + 1)) bg) wr
          rw [HS2.out]; exact HT.out
        clear HS HS2 HT hE
        go_wp2
        exact ⟨⟨j + 1, by omega, by go_num, HT3.out, HB.out⟩, by simp [intOf]; omega⟩
    · obtain rfl : j = N := by omega
      have HT3 : Hid (TS w.heap.size u5 (namesL L bg) wr) := by
        have := HT.out
        rw [HN.out, List.take_length] at this
        exact this
      clear HT
      go_wp2
      go_ret
      exact ⟨_, rfl, HT3.out, HB.out⟩
end Go.Proofs.Ytepmhgkegfpmjaa

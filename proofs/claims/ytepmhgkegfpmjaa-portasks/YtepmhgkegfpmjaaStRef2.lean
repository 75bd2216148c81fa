/-
  The document's store: where a name stands, what is got, what is used.
-/
import Derived.Test.YtepmhgkegfpmjaaStRef
namespace Go.Proofs.Ytepmhgkegfpmjaa
open Go.RowKit Go.Lib

/-- A list of objects lies in memory. -/
def OL (w : World) (v : Value) (L : List OB) : Prop :=
  ∃ a c, v = .slice a L.length c ∧ (L = [] ∨ ∃ g o, a = some ⟨g, o, none⟩ ∧ g < w.heap.size ∧ ∀ i p, L[i]? = some p → w.cell? ⟨g, o + i * 2, none⟩ = some (.string p.n) ∧ w.cell? ⟨g, o + i * 2 + 1, none⟩ = some (.string p.d))
/-- The document's store at a block. -/
def RSt (w : World) (b : Nat) (q f m : Int) (off : Bool) (v : Value) : Prop := w.heap[b]? = some (.cells #[.int .i64 q, .int .i64 f, .int .i64 m, .bool off, v] 92 (0, 0))
section
variable {w w' : World} {b : Nat} {q f m : Int} {off : Bool} {v : Value} {L : List OB}
theorem RSt.lt (h : RSt w b q f m off v) : b < w.heap.size := by
  have : w.heap[b]? = _ := h
  exact (Array.getElem?_eq_some_iff.1 this).1
theorem RSt.cell4 (h : RSt w b q f m off v) : w.cell? ⟨b, 4, none⟩ = some v := by simp [World.cell?, show w.heap[b]? = _ from h]
theorem RSt.below (h : RSt w b q f m off v) {B : Nat} (hb : Below B w w') (hB : b < B) : RSt w' b q f m off v := (hb.block b hB).trans h
theorem OL.below (h : OL w v L) {B : Nat} (hb : Below B w w') (hB : w.heap.size ≤ B) : OL w' v L := by
  obtain ⟨a, c, e, h | ⟨g, o, ea, hg, hC⟩⟩ := h
  · exact ⟨a, c, e, .inl h⟩
  · exact ⟨a, c, e, .inr ⟨g, o, ea, Nat.lt_of_lt_of_le hg hb.size, fun i p hp => ⟨(hb.cell (p := ⟨g, o + i * 2, none⟩) (Nat.lt_of_lt_of_le hg hB)).trans (hC i p hp).1, (hb.cell (p := ⟨g, o + i * 2 + 1, none⟩) (Nat.lt_of_lt_of_le hg hB)).trans (hC i p hp).2⟩⟩⟩
end
theorem pos_lt_some {L : List OB} {n : ByteArray} {j : Nat} (h : j < pos L n) : ∃ p, L[j]? = some p ∧ bl p.n n = true := by
  have hl : j < L.length := Nat.lt_of_lt_of_le h (pos_le L n)
  exact ⟨L[j], List.getElem?_eq_getElem hl, pos_before h (List.getElem?_eq_getElem hl)⟩

set_option maxRecDepth 100000 in
set_option maxHeartbeats 800000 in
theorem rfind_any {w : World} {b : Nat} {q f m : Int} {off : Bool} {v : Value} {L : List OB} (n : ByteArray) (hR : RSt w b q f m off v) (hO : OL w v L) (hl : L.length ≤ 1000000) (hL : Ris L) :
    Calls Try.prog 43 #[.pointer (some ⟨b, 0, none⟩), .string n] w fun e w' => e = .returned (.tuple #[.int .i64 ((pos L n : Nat) : Int), .bool (thr L n).isSome]) ∧ Below w.heap.size w w' := by
  obtain ⟨N, hN⟩ : ∃ N, N = L.length := ⟨_, rfl⟩
  obtain ⟨a, c, rfl, hO⟩ := hO
  have y4 := hR.cell4
  rw [← hN] at y4
  obtain ⟨P, hP⟩ : ∃ P, P = pos L n := ⟨_, rfl⟩
  obtain ⟨B, hB⟩ : ∃ B, B = (thr L n).isSome := ⟨_, rfl⟩
  rw [← hP, ← hB]
  have HO := hide hO
  have HN := hide hN
  have HP := hide hP
  have HBt := hide (hB.trans (by rw [pos_thr hL n]))
  have hPN : P ≤ N := by rw [hP, hN]; exact pos_le L n
  have hNl : N ≤ 1000000 := by rw [hN]; exact hl
  clear hO hN hP hB hR hL
  go_enter Try.func43, Try.ntmps43
  go_wp2
  go_loop [6] (fun i => ∃ j : Nat, j ≤ P ∧ i = .int .i64 j) (fun i => P - (intOf i).toNat)
  case atStart => exact ⟨0, Nat.zero_le _, rfl⟩
  case round =>
    obtain ⟨j, hj, rfl⟩ := hrel
    by_cases hlt : j < P
    · have b1 : (j : Int) < (N : Int) := by omega
      have b0 : (0 : Int) ≤ (j : Int) := by omega
      obtain ⟨p, hp, hb⟩ := pos_lt_some (L := L) (n := n) (j := j) (by rw [← HP.out]; exact hlt)
      obtain ⟨g, o, rfl, hg, hC⟩ := HO.out.resolve_left (by intro e; rw [e] at hp; simp at hp)
      have z0 := (hC j p hp).1
      have hs := less_fact hb
      clear hC hp hb
      go_wp2
      go_round
      case rel => exact ⟨j + 1, by omega, by go_num⟩
      case measure => simp [intOf]; omega
    · obtain rfl : j = P := by omega
      by_cases hN2 : j = N
      · subst hN2
        have hBf : B = false := by
          rw [HBt.out, ← HP.out, HN.out, List.getElem?_eq_none (Nat.le_refl _)]
          rfl
        subst hBf
        go_upto_region 4 with fail
        go_region
        go_wp2
        go_ret2
        exact ⟨rfl, (Below.refl _ _).drew⟩
      · have b1 : (j : Int) < (N : Int) := by omega
        have b0 : (0 : Int) ≤ (j : Int) := by omega
        have hjl : j < L.length := by rw [← HN.out]; omega
        obtain ⟨p, hp⟩ : ∃ p, L[j]? = some p := ⟨_, List.getElem?_eq_getElem hjl⟩
        obtain ⟨g, o, rfl, hg, hC⟩ := HO.out.resolve_left (by intro e; rw [e] at hp; simp at hp)
        have z0 := (hC j p hp).1
        have hs := less_fact (pos_at (L := L) (n := n) (by rw [← HP.out]; exact hp))
        have hBe : B = decide (p.n = n) := by
          rw [HBt.out, ← HP.out, hp]
          by_cases e : p.n = n
          · simp [e]
          · simp [e]
        have ht : (p.n.toList == n.toList) = B := by rw [hBe]; exact test_eq _ _
        have HBe := hide hBe
        clear hC hp hBe
        go_upto_region 4 with fail
        go_region
        go_wp2
        go_ret2
        exact ⟨rfl, (Below.refl _ _).drew⟩

set_option maxRecDepth 100000 in
set_option maxHeartbeats 800000 in
theorem rget_any {w : World} {b : Nat} {q f m : Int} {off : Bool} {v : Value} {L : List OB} (n : ByteArray) (hR : RSt w b q f m off v) (hO : OL w v L) (hl : L.length ≤ 1000000) (hL : Ris L) :
    Calls Try.prog 25 #[.pointer (some ⟨b, 0, none⟩), .string n] w fun e w' => e = .returned (.tuple #[.string ((thr L n).getD ⟨#[]⟩), .bool (thr L n).isSome]) ∧ Below w.heap.size w w' := by
  have HF : Hid _ := hide (rfind_any n hR hO hl hL)
  have HL := hide hL
  have HR := hide hR
  have HO := hide hO
  have HT := hide (pos_thr hL n)
  clear hR hO hL
  go_enter Try.func25, Try.ntmps25
  go_wp2_with fail
  refine HF.out.mono ?_
  rintro e w1 ⟨rfl, hb1⟩
  have HB1 := hide hb1
  have HR1 := hide (HR.out.below hb1 HR.out.lt)
  have HO1 := hide (HO.out.below hb1 (Nat.le_refl _))
  clear hb1 HF
  have hpl := pos_le L n
  cases ht : thr L n with
  | none =>
    have HTe := hide ht
    clear ht
    dsimp only [Option.isSome]
    go_wp2
    go_ret2
    exact ⟨by rw [HTe.out]; rfl, HB1.out⟩
  | some d =>
    have HT2 := HT.out
    rw [ht] at HT2
    obtain ⟨p, hp, hd⟩ : ∃ p, L[pos L n]? = some p ∧ p.d = d := by
      cases hq : L[pos L n]? with
      | none => rw [hq] at HT2; cases HT2
      | some p =>
        rw [hq] at HT2
        dsimp only at HT2
        by_cases e : p.n = n
        · rw [if_pos e] at HT2; exact ⟨p, rfl, (Option.some.inj HT2).symm⟩
        · rw [if_neg e] at HT2; cases HT2
    have hlt : pos L n < L.length := (List.getElem?_eq_some_iff.1 hp).1
    obtain ⟨a, c, rfl, hC⟩ := HO1.out
    obtain ⟨g, o, rfl, hg, hC⟩ := hC.resolve_left (by intro e; rw [e] at hp; simp at hp)
    have z1 := (hC _ p hp).2
    rw [hd] at z1
    have y4 := HR1.out.cell4
    have HTe := hide ht
    dsimp only [Option.isSome]
    clear hC hp HT HT2 ht
    generalize pos L n = P at *
    generalize hN : L.length = N at *
    have b0 : (0 : Int) ≤ (P : Int) := by omega
    have b1 : (P : Int) < (N : Int) := by omega
    go_wp2
    go_ret2
    exact ⟨by rw [HTe.out]; rfl, HB1.out⟩

set_option maxRecDepth 100000 in
set_option maxHeartbeats 800000 in
theorem rused_any {w : World} {b : Nat} {q f m : Int} {off : Bool} {v : Value} {L : List OB} (hR : RSt w b q f m off v) (hO : OL w v L) (hl : L.length ≤ 1000000) (hU : usedL L ≤ 1000000000000) :
    Calls Try.prog 67 #[.pointer (some ⟨b, 0, none⟩)] w fun e w' => e = .returned (.int .i64 ((usedL L : Nat) : Int)) ∧ Below w.heap.size w w' := by
  obtain ⟨N, hN⟩ : ∃ N, N = L.length := ⟨_, rfl⟩
  have HN := hide hN
  have HR := hide hR
  have HO := hide hO
  have hNl : N ≤ 1000000 := by rw [hN]; exact hl
  have HM : Hid (∀ j, usedL (L.take j) ≤ usedL L) := fun j => used_take_le L j
  clear hN hR hO
  go_enter Try.func67, Try.ntmps67
  go_wp2
  go_loopw [3, 4] (fun s i wr => ∃ j : Nat, j ≤ N ∧ i = .int .i64 j ∧ s = .int .i64 ((usedL (L.take j) : Nat) : Int) ∧ Below w.heap.size w wr) (fun _ i _ => N - (intOf i).toNat)
  case atStart => exact ⟨0, Nat.zero_le _, rfl, rfl, Below.refl _ _⟩
  case round =>
    obtain ⟨j, hj, rfl, rfl, hb⟩ := hrel
    have HB := hide hb
    have y4 := (HR.out.below hb HR.out.lt).cell4
    obtain ⟨a, c, rfl, hC⟩ := HO.out.below hb (Nat.le_refl _)
    rw [← HN.out] at y4
    clear hb
    by_cases hlt : j < N
    · have b1 : (j : Int) < (N : Int) := by omega
      have b0 : (0 : Int) ≤ (j : Int) := by omega
      have hjl : j < L.length := by rw [← HN.out]; omega
      obtain ⟨p, hp⟩ : ∃ p, L[j]? = some p := ⟨_, List.getElem?_eq_getElem hjl⟩
      obtain ⟨g, o, rfl, hg, hC⟩ := hC.resolve_left (by intro e; rw [e] at hp; simp at hp)
      obtain ⟨z0, z1⟩ := hC j p hp
      have HS := hide (used_take hp)
      have h1 := HM.out (j + 1)
      rw [HS.out] at h1
      generalize usedL (L.take j) = u at *
      have HB2 := hide HB.out.drew
      clear hC hp
      go_upto_region 5 with fail
      go_region
      go_wp2
      exact ⟨⟨j + 1, by omega, by go_num, by rw [HS.out]; go_num, HB2.out⟩, by simp [intOf]; omega⟩
    · obtain rfl : j = N := by omega
      have e : usedL (L.take j) = usedL L := by rw [HN.out, List.take_length]
      rw [e]
      clear e
      go_wp2
      go_ret
      exact ⟨rfl, HB.out⟩
end Go.Proofs.Ytepmhgkegfpmjaa

/-
  The document's Shard of whatever parts.
-/
import Derived.Test.YtfjkdmiaagalhaaGreatRJoin
namespace Go.Proofs.YtfjkdmiaagalhaaGreat
open Go.RowKit Go.Lib

theorem faultV_le {k m : Nat} {long : Int} {I : Nat → Int} {X : Nat → ByteArray} {n : Nat} : faultV k m long I X n ≠ 50 := by
  have hf : ∀ (km ea : Nat) n, flt km ea I X n ≠ 50 := fun km ea n => by
    induction n with
    | zero => show (0 : Int) ≠ 50; decide
    | succ n ih =>
      rw [flt]
      split
      · rw [bad1]
        split
        · split <;> decide
        · decide
      · exact ih
  rw [faultV]
  split
  · decide
  · exact hf _ _ _

set_option maxRecDepth 100000 in
set_option maxHeartbeats 1600000 in
theorem rshard_all {w : World} {b g k m : Nat} (h : RQ w b g k m) (k1 : 1 ≤ k) (k12 : k ≤ 12) (km : k + m ≤ 255) {vp : Value} {n : Nat} {I : Nat → Int} {X : Nat → ByteArray} (hn : n ≤ 1000) (hP : PX w vp n I X)
    (hXs : ∀ i, i < n → (X i).size ≤ 100000) (long idx : Int) :
    Calls Tryz.prog 11 #[.pointer (some ⟨b, 0, none⟩), vp, .int .i64 long, .int .i64 idx] w fun e w' => e = .returned (.tuple #[.string (shS k m long idx I X n), .int .i64 (shC k m long idx I X n)]) ∧ Below w.heap.size w w' := by
  have HP := hide h
  have HJ := hide (rjoin_all h k1 k12 km hn hP hXs long)
  obtain ⟨C, hC⟩ : ∃ C, C = shC k m long idx I X n := ⟨_, rfl⟩
  obtain ⟨S, hS⟩ : ∃ S, S = shS k m long idx I X n := ⟨_, rfl⟩
  rw [← hC, ← hS]
  have hwr : IntKind.i64.wrap ((k : Int) + (m : Int)) = (k : Int) + (m : Int) := wraps_i64 _ (by omega) (by omega)
  by_cases hf : faultV k m long I X n = 0
  · rw [shC, if_neg (Classical.not_not.2 hf)] at hC
    rw [shS, if_neg (Classical.not_not.2 hf)] at hS
    by_cases hx : 0 ≤ idx ∧ idx < ((k + m : Nat) : Int)
    · rw [if_neg (Classical.not_not.2 hx)] at hC hS
      have hd : decide (idx < 0) = false := decide_eq_false (by omega)
      have hd2 : decide ((k : Int) + (m : Int) ≤ idx) = false := decide_eq_false (by omega)
      by_cases hlt : (fu k I n).length < k
      · rw [if_pos hlt] at hC hS
        obtain ⟨e1, e2⟩ := jn_few hf hlt
        rw [e1, e2] at HJ
        subst hC hS
        clear h hP hXs hf hlt e1 e2
        go_enter Tryz.func11, Tryz.ntmps11
        go_wp2_with fail
        refine HJ.out.mono ?_
        rintro e w1 ⟨rfl, hb1⟩
        have HB1 := hide hb1
        have c0 := (HP.out.below hb1).pl.cell0
        have c1 := (HP.out.below hb1).pl.cell1
        clear hb1 HJ
        go_wp2
        go_quiet (fail)
        go_wp2
        exact bodyPost_ret (v := .tuple #[.string ⟨#[]⟩, .int .i64 50]) (by simp [results, Tryz.results11, go_sem]) rfl ⟨rfl, below_drew HB1.out _⟩
      · rw [if_neg hlt] at hC hS
        obtain ⟨e1, e2⟩ := jn_ok hf hlt
        rw [e1, e2] at HJ
        obtain ⟨h0, h1, hI, hX⟩ := faultV_zero hf
        have hJs := joinB_size (I := I) k1 hX (by have := fu_le k I n; omega)
        obtain ⟨x, hxe⟩ : ∃ x : Nat, idx = (x : Int) := ⟨idx.toNat, by omega⟩
        subst hxe
        rw [Int.toNat_natCast] at hS
        generalize joinB k I X n long.toNat = J at *
        have hJs' : J.size ≤ 65536 := by omega
        have hx' : x < k + m := by omega
        have HSS := hide hS
        subst hC
        clear h hP hXs hf hlt e1 e2 hI hX hJs hS
        go_enter Tryz.func11, Tryz.ntmps11
        go_wp2_with fail
        refine HJ.out.mono ?_
        rintro e w1 ⟨rfl, hb1⟩
        have HB1 := hide hb1
        have HP1 := hide (HP.out.below hb1)
        have c0 := HP1.out.pl.cell0
        have c1 := HP1.out.pl.cell1
        clear hb1 HJ HP
        go_wp2
        go_quiet (fail)
        clear c0 c1
        have HBq : Hid (Below w1.heap.size w1 (w1.drewN nq)) := below_drew (Below.refl _ _) nq
        go_wp2_with fail
        refine (rshards_any (HP1.out.below HBq.out) k1 km J hJs').mono ?_
        rintro e w2 ⟨a2, c2, rfl, hI2, hb2⟩
        have HB2 := hide (below_step (below_step HB1.out HBq.out) hb2)
        obtain ⟨_, _, e9, h0 | ⟨g2, o2, ea2, hg2, hc2⟩⟩ := hI2.tx
        · omega
        simp only [Value.slice.injEq] at e9
        obtain ⟨e91, _, e93⟩ := e9
        subst e91 e93
        subst ea2
        have p1 := hc2 x hx'
        have b1 : (0 : Int) ≤ (x : Int) := by omega
        obtain ⟨n9, hn9⟩ : ∃ n9, n9 = k + m := ⟨_, rfl⟩
        rw [← hn9]
        have b2 : (x : Int) < (n9 : Int) := by omega
        clear hI2 hc2 hb2 HBq HB1 HP1
        generalize shd k J x = D at *
        go_wp2
        exact bodyPost_ret (v := .tuple #[.string D, .int .i64 0]) (by simp [results, Tryz.results11, go_sem]) rfl ⟨by rw [HSS.out], HB2.out⟩
    · rw [if_pos hx] at hC hS
      subst hC hS
      have HJ2 : Hid (∃ (s : ByteArray) (cc : Int), (cc = 0 ∨ cc = 50) ∧ Calls Tryz.prog 9 #[.pointer (some ⟨b, 0, none⟩), vp, .int .i64 long] w fun e w' => e = .returned (.tuple #[.string s, .int .i64 cc]) ∧ Below w.heap.size w w') := by
        refine ⟨_, _, ?_, HJ.out⟩
        by_cases hlt : (fu k I n).length < k
        · exact .inr (jn_few hf hlt).1
        · exact .inl (jn_ok hf hlt).1
      obtain ⟨s9, cc, hcc, hJ9⟩ := HJ2.out
      have HJ9 := hide hJ9
      clear h hP hXs hf HJ HJ2 hJ9
      go_enter Tryz.func11, Tryz.ntmps11
      go_wp2_with fail
      refine HJ9.out.mono ?_
      rintro e w1 ⟨rfl, hb1⟩
      have HB1 := hide hb1
      have c0 := (HP.out.below hb1).pl.cell0
      have c1 := (HP.out.below hb1).pl.cell1
      clear hb1 HJ9
      by_cases hneg : idx < 0
      · have hd : decide (idx < 0) = true := decide_eq_true hneg
        rcases hcc with rfl | rfl
        all_goals
          go_wp2
          go_quiet (fail)
          go_wp2
          exact bodyPost_ret (v := .tuple #[.string ⟨#[]⟩, .int .i64 1]) (by simp [results, Tryz.results11, go_sem]) rfl ⟨rfl, below_drew HB1.out _⟩
      · have hd : decide (idx < 0) = false := decide_eq_false hneg
        have hd2 : decide ((k : Int) + (m : Int) ≤ idx) = true := decide_eq_true (by omega)
        rcases hcc with rfl | rfl
        all_goals
          go_wp2
          go_quiet (fail)
          go_wp2
          exact bodyPost_ret (v := .tuple #[.string ⟨#[]⟩, .int .i64 1]) (by simp [results, Tryz.results11, go_sem]) rfl ⟨rfl, below_drew HB1.out _⟩
  · rw [shC, if_pos hf] at hC
    rw [shS, if_pos hf] at hS
    obtain ⟨e1, e2⟩ := jn_fault rfl hf
    rw [e1, e2, ← hC] at HJ
    have hne : faultV k m long I X n ≠ 50 := faultV_le
    rw [← hC] at hf hne
    subst hS
    have b1 := nz_bne hf
    have b2 : ¬ C = 0 := hf
    have b3 : ¬ C = 50 := hne
    have b4 : (C != 50) = true := by simpa using hne
    clear h hP hXs e1 e2 hC hf hne
    go_enter Tryz.func11, Tryz.ntmps11
    go_wp2_with fail
    refine HJ.out.mono ?_
    rintro e w1 ⟨rfl, hb1⟩
    have HB1 := hide hb1
    clear hb1 HJ
    go_wp2
    exact bodyPost_ret (v := .tuple #[.string ⟨#[]⟩, .int .i64 C]) (by simp [results, Tryz.results11, go_sem]) rfl ⟨rfl, HB1.out⟩
end Go.Proofs.YtfjkdmiaagalhaaGreat

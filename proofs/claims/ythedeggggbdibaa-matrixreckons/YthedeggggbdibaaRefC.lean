/-
  The contracts of the document's own At, Check and Mul.
-/
import Derived.Test.YthedeggggbdibaaMakesLaw
namespace Go.Proofs.Ythedeggggbdibaa
open Go.RowKit Go.Lib

set_option maxRecDepth 100000 in
theorem at_any {w : World} {f n : Nat} {v : Value} {Z : Nat → Int} {r : Int} {c i j x : Nat} (h : NX w f v n Z) (hx : x = i * c + j) (hlt : x < n) (hb : x < 1000000) (hj : j < 1000000) :
    Calls Try.prog 39 #[.agg #[.int .i64 r, .int .i64 c, v], .int .i64 i, .int .i64 j] w fun e w' => e = .returned (.int .i64 (Z x)) ∧ Below w.heap.size w w' := by
  have h1 := h.alloc (.cells #[.int .i64 r, .int .i64 c, v] 29)
  obtain ⟨bl, off, cp, rfl, hc, _, _⟩ := h.at (by omega)
  have c1 := h1.cell_at x hlt
  clear h h1
  obtain ⟨y, hy⟩ : ∃ y, y = i * c := ⟨_, rfl⟩
  have hm : (i : Int) * (c : Int) = (y : Int) := by rw [← Int.natCast_mul, hy]
  rw [← hy] at hx
  clear hy
  have hs : (y : Int) + (j : Int) = (x : Int) := by omega
  have b0 : (0 : Int) ≤ (x : Int) := by omega
  have b1 : (x : Int) < (n : Int) := by omega
  have b2 : y ≤ 1000000 := by omega
  clear hx
  go_enter Try.func39, Try.ntmps39
  go_wp2
  go_ret
  exact ⟨rfl, (Below.refl _ _).alloc (Nat.le_refl _) _⟩

set_option maxRecDepth 100000 in
set_option maxHeartbeats 800000 in
theorem refCheck_any {w : World} {f n : Nat} {v : Value} {Z : Nat → Int} {r c : Int} (h : NX w f v n Z) (hn : n ≤ 140737488355328) :
    Calls Try.prog 20 #[.agg #[.int .i64 r, .int .i64 c, v]] w fun e w' => e = .returned (.int .i64 (chk r c n Z)) ∧ Below w.heap.size w w' := by
  have h1 := h.alloc (.cells #[.int .i64 r, .int .i64 c, v] 29)
  have X1 := Br.new w r c v
  obtain ⟨a, cp, rfl, _⟩ := h
  have H : Hid _ := h1
  have hB := hide (below_alloc (Below.refl w.heap.size w) (.cells #[.int .i64 r, .int .i64 c, .slice a n cp] 29))
  clear h1
  cases er : isSd r
  · rw [chk, if_pos er]
    have h' : r < 1 ∨ 255 < r := by simp [isSd] at er; omega
    clear er X1
    rcases h' with h | h
    · go_enter Try.func20, Try.ntmps20
      go_wp2
      go_ret
      exact ⟨rfl, hB.out⟩
    · have h2 : ¬ r < 1 := by omega
      go_enter Try.func20, Try.ntmps20
      go_wp2
      go_ret
      exact ⟨rfl, hB.out⟩
  have er' := er
  obtain ⟨r', hr', r1, r2⟩ := isSd_out er
  have e1 : ¬ r < 1 := by omega
  have e2 : ¬ 255 < r := by omega
  cases ec : isSd c
  · rw [chk, if_neg (by simp [er]), if_pos ec]
    have h' : c < 1 ∨ 255 < c := by simp [isSd] at ec; omega
    clear ec er er' X1 hr'
    rcases h' with h | h
    · go_enter Try.func20, Try.ntmps20
      go_wp2
      go_ret
      exact ⟨rfl, hB.out⟩
    · have h2 : ¬ c < 1 := by omega
      go_enter Try.func20, Try.ntmps20
      go_wp2
      go_ret
      exact ⟨rfl, hB.out⟩
  obtain ⟨c', hc', c1, c2⟩ := isSd_out ec
  have e3 : ¬ c < 1 := by omega
  have e4 : ¬ 255 < c := by omega
  have hrc : r' * c' ≤ 255 * 255 := Nat.mul_le_mul r2 c2
  obtain ⟨m, hm⟩ : ∃ m, m = r' * c' := ⟨_, rfl⟩
  have hm1 : r * c = (m : Int) := by rw [hr', hc', ← Int.natCast_mul, hm]
  rw [← hm] at hrc
  rw [chk, if_neg (by simp [er]), if_neg (by simp [ec])]
  clear er er' ec
  by_cases hnm : n = m
  · subst hnm
    rw [if_neg (by simp [hm1])]
    obtain ⟨res, hres⟩ : ∃ res : Int, res = if upB 255 Z n = false then 1 else 0 := ⟨_, rfl⟩
    rw [← hres]
    have HR := hide hres
    have x2 := X1.cell2
    have hbl : w.heap.size < (w.alloc (.cells #[.int .i64 r, .int .i64 c, .slice a n cp] 29)).heap.size := by simp
    clear hm hr' hc' hres X1
    go_enter Try.func20, Try.ntmps20
    go_wp2
    go_loop [3] (fun z => ∃ j : Nat, j ≤ n ∧ z = .int .i64 j ∧ upB 255 Z j = true) (fun z => n - (intOf z).toNat)
    case atStart => exact ⟨0, Nat.zero_le _, rfl, rfl⟩
    case round =>
      obtain ⟨j, hj, rfl, hup⟩ := hrel
      have HU := hide hup
      clear hup
      by_cases hlt : j < n
      · obtain ⟨bl, off, cp', he, _, _, _⟩ := NX.at H.out (by omega)
        simp only [Value.slice.injEq, true_and] at he
        obtain ⟨rfl, rfl⟩ := he
        have cj := NX.cell_at H.out j hlt
        have b0 : (0 : Int) ≤ (j : Int) := by omega
        have b1 : (j : Int) < (n : Int) := by omega
        by_cases z1 : Z j < 0
        · have hr1 : res = 1 := by rw [HR.out, upB_false 255 Z n j hlt (by simp; omega)]; rfl
          subst hr1
          clear HR
          go_wp2
          go_ret
          exact ⟨rfl, hB.out⟩
        by_cases z2 : 255 < Z j
        · have hr1 : res = 1 := by rw [HR.out, upB_false 255 Z n j hlt (by simp; omega)]; rfl
          subst hr1
          clear HR
          go_wp2
          go_ret
          exact ⟨rfl, hB.out⟩
        have HO : Hid (upB 255 Z (j + 1) = true) := by
          show _ = _
          rw [upB_succ, HU.out, show (decide (0 ≤ Z j) && decide (Z j ≤ 255)) = true by simp; omega]; rfl
        go_wp2
        exact ⟨⟨j + 1, by omega, by go_num, HO.out⟩, by simp [intOf]; omega⟩
      · obtain rfl : j = n := by omega
        have hr0 : res = 0 := by rw [HR.out, HU.out]; rfl
        subst hr0
        clear HR
        go_wp2
        go_ret
        exact ⟨rfl, hB.out⟩
  · rw [if_pos (by rw [hm1]; omega)]
    have hne : ((n : Int) != (m : Int)) = true := by simp; omega
    clear hm hr' hc' hnm X1
    go_enter Try.func20, Try.ntmps20
    go_wp2
    go_ret
    exact ⟨rfl, hB.out⟩
end Go.Proofs.Ythedeggggbdibaa

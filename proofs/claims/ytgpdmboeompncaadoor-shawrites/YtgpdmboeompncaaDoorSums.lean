/-
  The contract of the call that sums pieces.
-/
import Derived.Test.YtgpdmboeompncaaDoorSum
namespace Go.Proofs.YtgpdmboeompncaaDoor
open Go.RowKit Go.Lib

/-- A list of texts that lies in memory. -/
def Pieces (w : World) (v : Value) (ps : List ByteArray) : Prop :=
  ∃ a c, v = .slice a ps.length c ∧ (ps = [] ∨ ∃ bl off, a = some ⟨bl, off, none⟩ ∧ bl < w.heap.size ∧ ∀ (k : Nat) (h : k < ps.length), w.cell? ⟨bl, off + k, none⟩ = some (.string ps[k]))
theorem Pieces.below {w w' : World} {v : Value} {ps : List ByteArray} (h : Pieces w v ps) (hb : Below w.heap.size w w') : Pieces w' v ps := by
  obtain ⟨a, c, hv, h⟩ := h
  refine ⟨a, c, hv, h.imp_right ?_⟩
  rintro ⟨bl, off, ha, hbl, hc⟩
  exact ⟨bl, off, ha, Nat.lt_of_lt_of_le hbl hb.size, fun k hk => (hb.cell (p := ⟨bl, off + k, none⟩) hbl).trans (hc k hk)⟩

/-- All pieces, one behind the other. -/
def joined (ps : List ByteArray) : List UInt8 := ps.flatMap fun p => p.data.toList
theorem joined_take (ps : List ByteArray) (j : Nat) (h : j < ps.length) : joined (ps.take (j + 1)) = joined (ps.take j) ++ ps[j].data.toList := by
  rw [joined, joined, List.take_succ_eq_append_getElem h, List.flatMap_append]
  simp
theorem joined_le (ps : List ByteArray) (j : Nat) : (joined (ps.take j)).length ≤ (joined ps).length := by
  have : joined ps = joined (ps.take j) ++ joined (ps.drop j) := by rw [joined, joined, joined, ← List.flatMap_append, List.take_append_drop]
  rw [this, List.length_append]
  omega

theorem HS.new {w : World} {b : Nat} (h : HB w b first zeroBl 0) : HS w b [] := ⟨zeroBl, h, rfl⟩

set_option maxHeartbeats 800000 in
set_option maxRecDepth 100000 in
theorem sum_any {w : World} {v : Value} {ps : List ByteArray} (hL : Laid w) (hp : Pieces w v ps) (hn : ps.length ≤ 140737488355328) (hs : (joined ps).length ≤ 1000000000000) :
    Calls Tryd.prog 12 #[v] w fun e w' => e = .returned (.string (strOf (digest (joined ps)))) ∧ Below w.heap.size w w' := by
  have hsz := hL.size
  obtain ⟨ad, c, rfl, hcs⟩ := hp
  have HC : Hid _ := hcs
  clear hcs
  obtain ⟨n, hnn⟩ : ∃ n, n = ps.length := ⟨_, rfl⟩
  rw [← hnn] at hn ⊢
  go_enter Tryd.func12, Tryd.ntmps12
  go_wp2_with fail
  refine (new_any hL).mono ?_
  rintro e w1 ⟨rfl, hr1, hb1⟩
  have hS1 := HS.new hr1
  have hL1 := hL.below hb1 hsz
  clear hr1
  have HN : Hid _ := hnn
  clear hnn
  go_wp2
  go_loopw [5, 9] (fun _ i wr => ∃ j : Nat, j ≤ n ∧ i = .int .i64 j ∧ HS wr w.heap.size (joined (ps.take j)) ∧ Laid wr ∧ Below w.heap.size w wr)
    (fun _ i _ => n - (intOf i).toNat)
  case atStart => exact ⟨0, Nat.zero_le _, rfl, hS1, hL1, hb1⟩
  case round =>
    clear hS1 hL1 hb1
    obtain ⟨j, hj, rfl, hS, hLr, hb⟩ := hrel
    by_cases hlt : j < n
    · have hjp : j < ps.length := by rw [← HN.out]; exact hlt
      obtain ⟨bl, off, rfl, hbl, hc⟩ := HC.out.resolve_left (fun e => by rw [e] at hjp; exact absurd hjp (Nat.not_lt_zero _))
      have hcj := (hb.cell (p := ⟨bl, off + j, none⟩) hbl).trans (hc j hjp)
      have hJ := joined_take ps j hjp
      have hle : (joined (ps.take j)).length + ps[j].size ≤ 1000000000000 := by
        have := joined_le ps (j + 1)
        rw [hJ, List.length_append, ← Lib.size_eq] at this
        omega
      have HJ : Hid _ := hJ
      clear hc hJ
      generalize ps[j] = p at *
      have b0 : (0 : Int) ≤ (j : Int) := by omega
      have b1 : (j : Int) < (n : Int) := by omega
      go_wp2_with fail
      refine (write_any p hLr hS hsz hle).mono ?_
      rintro e w2 ⟨rfl, hS2, hL2, hg2⟩
      rw [← HJ.out] at hS2
      have hb2 := below_gb hb hg2 (Nat.le_refl _) hb.size
      go_wp2
      exact ⟨⟨j + 1, by omega, by go_num, hS2, hL2, hb2⟩, by simp [intOf]; omega⟩
    · have hjn : j = n := by omega
      subst hjn
      have hall : ps.take j = ps := List.take_of_length_le (by rw [← HN.out]; exact Nat.le_refl _)
      rw [hall] at hS
      go_wp2_with fail
      refine (hsum_any hLr hS hs).mono ?_
      rintro e w2 ⟨rfl, hb2⟩
      go_wp2
      go_ret
      exact ⟨rfl, hb.trans (hb2.mono hb.size)⟩

end Go.Proofs.YtgpdmboeompncaaDoor

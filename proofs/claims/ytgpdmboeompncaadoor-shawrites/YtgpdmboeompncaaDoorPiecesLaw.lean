/-
  The walk of the statement 'in whatever pieces'.
-/
import Derived.Test.YtgpdmboeompncaaDoorRoots
import Derived.Test.YtgpdmboeompncaaDoorWorks
import Derived.Deep.DeepCutAuto
import Derived.Deep.CutBlock
namespace Go.Proofs.YtgpdmboeompncaaDoor
open Go.RowKit Go.Lib

/-- A list of numbers that lies in memory. -/
def Ints (w : World) (a : Option Addr) (n : Nat) (Z : Nat → Int) : Prop :=
  n = 0 ∨ ∃ b off, a = some ⟨b, off, none⟩ ∧ b < w.heap.size ∧ ∀ i, i < n → w.cell? ⟨b, off + i, none⟩ = some (.int .i64 (Z i)) ∧ -9223372036854775808 ≤ Z i ∧ Z i ≤ 9223372036854775807

theorem extract_lo (u : ByteArray) (n : Nat) : (u.extract 0 n).data.toList = u.data.toList.take n := by
  rw [ByteArray.data_extract, Array.toList_extract, List.extract_eq_take_drop]
  simp

theorem isId_any (u : ByteArray) (w : World) (h : u.size = 32) : Calls Tryd.prog 26 #[.string u] w fun e w' => e = .returned (.bool true) ∧ w' = w := by
  go_enter Tryd.func26, Tryd.ntmps26
  go_wp2
  go_ret
  exact ⟨rfl, rfl⟩

theorem below_step {w9 w' w'' : World} (h : Below w9.heap.size w9 w') (k : Below w'.heap.size w' w'') : Below w9.heap.size w9 w'' := h.trans (k.mono h.size)
theorem below_alloc {w9 w' : World} (h : Below w9.heap.size w9 w') (o : Obj) : Below w9.heap.size w9 (w'.alloc o) := h.alloc h.size o
theorem pieces_drew {w : World} {v : Value} {ps : List ByteArray} (h : Pieces w v ps) : Pieces w.drew v ps := h
theorem HS.below {w w' : World} {b : Nat} {s : List UInt8} (h : HS w b s) {B : Nat} (hb : Below B w w') (hB : b < B) : HS w' b s := by
  obtain ⟨bl, h1, h2⟩ := h
  exact ⟨bl, h1.below hb hB, h2⟩
theorem HS.lt {w : World} {b : Nat} {s : List UInt8} (h : HS w b s) : b < w.heap.size := by
  obtain ⟨_, h1, _⟩ := h
  exact h1.lt

set_option maxHeartbeats 1600000 in
set_option maxRecDepth 100000 in
theorem pieces_walk (s : ByteArray) (a : Option Addr) (n c : Nat) (Z : Nat → Int) {w : World} (hL : Laid w) (hI : Ints w a n Z) (hn : n ≤ maxLen) (hs : s.size ≤ 140737488355328) :
    Calls Tryd.prog 6 #[.string s, .slice a n c] w fun e w' => e = .returned (.bool true) ∧ Below w.heap.size w w' := by
  have hsz := hL.size
  have hnb : n ≤ 9223372036854775807 := Nat.le_trans hn (by decide)
  have HI : Hid _ := hI
  clear hI hn
  go_enter Tryd.func6, Tryd.ntmps6
  go_wp2_with fail
  refine (new_any hL).mono ?_
  rintro e w1 ⟨rfl, hr1, hb1⟩
  have hS1 := HS.new hr1
  have hL1 := hL.below hb1 hsz
  have hlt1 := hr1.lt
  clear hr1
  go_wp2_with fail
  refine (works_any hL1).mono ?_
  rintro e w2 ⟨rfl, hb2⟩
  have hS2 : HS w2 w.heap.size [] := by
    obtain ⟨bl, h, h2⟩ := hS1
    exact ⟨bl, h.below hb2 hlt1, h2⟩
  have hL2 := hL1.below hb2 (by omega)
  have hbw : Below w.heap.size w w2 := hb1.trans (hb2.mono hb1.size)
  clear hS1 hL1 hb1 hb2 hlt1
  by_cases h1000 : 1000 < s.size
  · go_wp2
    go_ret
    exact ⟨rfl, hbw⟩
  go_wp2
  go_loopw [6, 7, 8] (fun r i _ wr => ∃ (u : ByteArray) (j : Nat) (p : List UInt8), r = .string u ∧ i = .int .i64 j ∧ j ≤ 50 ∧ p ++ u.data.toList = s.data.toList ∧ HS wr w.heap.size p ∧ Laid wr ∧ Below w.heap.size w wr)
    (fun _ i _ _ => 50 - (intOf i).toNat)
  case atStart => exact ⟨s, 0, [], rfl, rfl, by omega, rfl, hS2, hL2, hbw⟩
  case round =>
    clear hS2 hL2 hbw
    obtain ⟨u, j, p, rfl, rfl, hj, he, hS, hLr, hb⟩ := hrel
    have HE : Hid _ := he
    have hle : p.length + u.size = s.size := by
      have := congrArg List.length he
      simpa only [List.length_append, ← Lib.size_eq] using this
    have hu : u.size ≤ 1000 := by omega
    have hp : p.length + u.size ≤ 1000 := by omega
    clear he hle
    by_cases hin : j < n ∧ j < 50
    · obtain ⟨hjn, hj50⟩ := hin
      obtain ⟨bl, off, ha, hbl, hc⟩ := HI.out.resolve_left (by omega)
      obtain ⟨cj, z1, z2⟩ := hc j hjn
      have cj' : wr.cell? ⟨bl, off + j, none⟩ = some (.int .i64 (Z j)) := (hb.cell (p := ⟨bl, off + j, none⟩) hbl).trans cj
      subst ha
      have b0 : (0 : Int) ≤ (j : Int) := by omega
      have b1 : (j : Int) < (n : Int) := by omega
      clear hc cj
      go_wp2_with fail
      refine (among_any (Z j) _ wr ⟨z1, z2⟩ ⟨by omega, by omega⟩).mono ?_
      obtain ⟨m, hm, hmu⟩ : ∃ m : Nat, Z j % ((u.size : Int) + 1) = (m : Int) ∧ m ≤ u.size := by
        have e1 := Int.emod_nonneg (Z j) (show (u.size : Int) + 1 ≠ 0 by omega)
        have e2 := Int.emod_lt_of_pos (Z j) (show 0 < (u.size : Int) + 1 by omega)
        exact ⟨(Z j % ((u.size : Int) + 1)).toNat, by omega, by omega⟩
      rw [hm]
      rintro e w5 ⟨rfl, rfl⟩
      clear hm z1 z2
      go_wp2_with fail
      have hsz0 : (u.extract 0 m).size ≤ u.size := by rw [ByteArray.size_extract]; omega
      refine (write_any (u.extract 0 m) hLr hS hsz (by omega)).mono ?_
      rintro e w6 ⟨rfl, hS6, hL6, hg6⟩
      have hb6 := below_gb hb hg6 (Nat.le_refl _) hb.size
      have HE6 : Hid (p ++ (u.extract 0 m).data.toList ++ (u.extract m u.size).data.toList = s.data.toList) := by
        show _ = _
        rw [extract_lo, toList_rest, List.append_assoc, List.take_append_drop]
        exact HE.out
      clear hS hLr hb hg6 cj' HE hsz0
      go_wp2
      exact ⟨⟨_, j + 1, _, rfl, by go_num, by omega, HE6.out, hS6, hL6, hb6⟩, by simp [intOf]; omega⟩
    · have hout : ¬ j < n ∨ (j < n ∧ ¬ j < 50) := by omega
      clear hin
      obtain ⟨k, hk⟩ : ∃ k, k = u.size / 2 := ⟨_, rfl⟩
      have hku : k ≤ u.size := by omega
      have hks : k ≤ s.size := by
        have := congrArg List.length HE.out
        simp only [List.length_append, ← Lib.size_eq] at this
        omega
      have hkd : (u.size : Int) / 2 = (k : Int) := by omega
      clear hk
      rcases hout with hjn | ⟨hjn, hj50⟩
      all_goals
        go_wp2_with fail
        have hsz0 : (u.extract 0 k).size ≤ k := by rw [ByteArray.size_extract]; omega
        refine (write_any (u.extract 0 k) hLr hS hsz (by omega)).mono ?_
        rintro e w6 ⟨rfl, hS6, hL6, hg6⟩
        have hb6 := below_gb hb hg6 (Nat.le_refl _) hb.size
        go_wp2_with fail
        have hsz1 : (p ++ (u.extract 0 k).data.toList).length + (u.extract k u.size).size ≤ 2000 := by
          rw [List.length_append, ← Lib.size_eq, ByteArray.size_extract, ByteArray.size_extract]
          omega
        refine (write_any (u.extract k u.size) hL6 hS6 hsz (by omega)).mono ?_
        rintro e w9 ⟨rfl, hS9, hL9, hg9⟩
        have hb9 := below_gb hb6 hg9 (Nat.le_refl _) hb6.size
        rw [show p ++ (u.extract 0 k).data.toList ++ (u.extract k u.size).data.toList = s.data.toList by
          rw [extract_lo, toList_rest, List.append_assoc, List.take_append_drop]
          exact HE.out] at hS9
        clear hS hLr hb hg6 HE hsz0 hsz1 hS6 hL6 hb6 hg9
        go_wp2_with fail
        have hB9 := hS9.lt
        have hsl : s.data.toList.length ≤ 1000 := by rw [← Lib.size_eq]; omega
        have A17 : Hid (∀ w' : World, Below w9.heap.size w9 w' → Calls Tryd.prog 17 #[.pointer (some ⟨w.heap.size, 0, none⟩)] w' fun e w'' => e = .returned (.string (strOf (digest s.data.toList))) ∧ (Below w9.heap.size w9 w'' ∧ Below w'.heap.size w' w'')) := fun w' h =>
          (hsum_any (hL9.below h (by omega)) (hS9.below h hB9) (by omega)).mono fun _ _ ⟨he, hk⟩ => ⟨he, below_step h hk, hk⟩
        have A12 : Hid (∀ (w' : World) (v : Value) (ps : List ByteArray), Below w9.heap.size w9 w' → Pieces w' v ps → ps.length ≤ 2 → joined ps = s.data.toList → Calls Tryd.prog 12 #[v] w' fun e w'' => e = .returned (.string (strOf (digest s.data.toList))) ∧ (Below w9.heap.size w9 w'' ∧ Below w'.heap.size w' w'')) := fun w' v ps h hp hn hj =>
          (sum_any (hL9.below h (by omega)) hp (by omega) (by rw [hj]; omega)).mono fun _ _ ⟨he, hk⟩ => ⟨by rw [he, hj], below_step h hk, hk⟩
        have A18 : Hid (∀ w' : World, Below w9.heap.size w9 w' → Calls Tryd.prog 18 #[.pointer (some ⟨w.heap.size, 0, none⟩)] w' fun e w'' => e = .returned (.int .i64 s.size) ∧ w'' = w') := fun w' h => by
          obtain ⟨bl, h1, _⟩ := hS9.below h hB9
          rw [Lib.size_eq]
          exact len_any h1
        have J1 : Hid (joined [s] = s.data.toList) := by simp [Hid, joined]
        have J2 : Hid (joined [s.extract 0 k, s.extract k s.size] = s.data.toList) := by
          show joined _ = _
          simp only [joined, List.flatMap_cons, List.flatMap_nil, List.append_nil, extract_lo, toList_rest, List.take_append_drop]
        have hD : (strOf (digest s.data.toList)).size = 32 := by rw [strOf_size, digest_length]
        generalize strOf (digest s.data.toList) = D at *
        clear hS9 hL9 hsl
        go_region_held3 (fun w' => Below w9.heap.size w9 w') (first | assumption | exact (Below.refl _ _).drew | exact (below_alloc (Below.refl _ _) _).drew | exact below_alloc (by assumption) _ | exact (below_alloc (by assumption) _).drew)
          (first
            | (go_at_call 17; refine (A17.out _ (by assumption)).mono ?_; rintro e wa ⟨rfl, ka, ka2⟩; have pp := fun v ps (h : Pieces _ v ps) => h.below ka2)
            | (go_at_call 12; refine (A12.out _ _ [s] (by assumption) (by first | exact pieces_new _ [s] | exact pieces_drew (pieces_new _ [s]) | exact pp _ _ (pieces_new _ [s]) | exact pp _ _ (pieces_drew (pieces_new _ [s]))) (by simp) J1.out).mono ?_; rintro e wb ⟨rfl, kb, kb2⟩)
            | (go_at_call 12; refine (A12.out _ _ [s.extract 0 k, s.extract k s.size] (by assumption) (by first | exact pieces_new _ [s.extract 0 k, s.extract k s.size] | exact pieces_drew (pieces_new _ [s.extract 0 k, s.extract k s.size]) | exact pp _ _ (pieces_new _ [s.extract 0 k, s.extract k s.size]) | exact pp _ _ (pieces_drew (pieces_new _ [s.extract 0 k, s.extract k s.size]))) (by simp) J2.out).mono ?_; rintro e wb ⟨rfl, kb, kb2⟩)
            | (go_at_call 18; refine (A18.out _ (by assumption)).mono ?_; rintro e wc ⟨rfl, rfl⟩)
            | (go_at_call 26; refine (isId_any D _ hD).mono ?_; rintro e wd ⟨rfl, rfl⟩))
        all_goals
          go_wp2
          go_ret
          exact ⟨rfl, below_step hb9 (by assumption)⟩
end Go.Proofs.YtgpdmboeompncaaDoor

/-
  The contracts of the document's sum of pieces, and of the book's lists that are lent and kept.
-/
import Derived.Test.YtgpdmboeompncaaDoorRefDigest
import Derived.Test.YtgpdmboeompncaaDoorSums
import Derived.Laws.AppendOwnNone
namespace Go.Proofs.YtgpdmboeompncaaDoor
open Go.RowKit Go.Lib

theorem size_joined (ps : List ByteArray) (j : Nat) (h : j < ps.length) (hs : (joined ps).length ≤ 100000) : (joined (ps.take j)).length + ps[j].size ≤ 100000 := by
  have h1 := joined_take ps j h
  have h2 := joined_le ps (j + 1)
  rw [h1, List.length_append, ← Lib.size_eq] at h2
  omega

set_option maxHeartbeats 800000 in
set_option maxRecDepth 100000 in
theorem refSum_any {w : World} {v : Value} {ps : List ByteArray} (hp : Pieces w v ps) (hn : ps.length ≤ 1000) (hs : (joined ps).length ≤ 100000) :
    Calls Tryd.prog 20 #[v] w fun e w' => e = .returned (.string (strOf (digest (joined ps)))) ∧ Below w.heap.size w w' := by
  obtain ⟨ad, c, rfl, hcs⟩ := hp
  have HC : Hid _ := hcs
  clear hcs
  obtain ⟨n, hnn⟩ : ∃ n, n = ps.length := ⟨_, rfl⟩
  rw [← hnn] at hn ⊢
  have HN : Hid _ := hnn
  clear hnn
  go_enter Tryd.func20, Tryd.ntmps20
  go_wp2
  go_loopw [3, 4] (fun s i wr => ∃ j : Nat, j ≤ n ∧ i = .int .i64 j ∧ s = .string (strOf (joined (ps.take j))) ∧ wr = w)
    (fun _ i _ => n - (intOf i).toNat)
  case atStart => exact ⟨0, Nat.zero_le _, rfl, rfl, rfl⟩
  case round =>
    obtain ⟨j, hj, rfl, rfl, rfl⟩ := hrel
    by_cases hlt : j < n
    · have hjp : j < ps.length := by rw [← HN.out]; exact hlt
      obtain ⟨bl, off, rfl, hbl, hc⟩ := HC.out.resolve_left (fun e => by rw [e] at hjp; exact absurd hjp (Nat.not_lt_zero _))
      have hcj := hc j hjp
      have hle := size_joined ps j hjp hs
      have hsz : (strOf (joined (ps.take j))).size ≤ 100000 := by rw [strOf_size]; omega
      have hpz : ps[j].size ≤ 100000 := by omega
      have happ : strOf (joined (ps.take j)) ++ ps[j] = strOf (joined (ps.take (j + 1))) := by
        rw [joined_take ps j hjp, ← strOf_append, strOf_self']
      clear hc hle
      generalize ps[j] = p at *
      generalize strOf (joined (ps.take j)) = S at *
      have b0 : (0 : Int) ≤ (j : Int) := by omega
      have b1 : (j : Int) < (n : Int) := by omega
      go_wp2
      exact ⟨⟨j + 1, by omega, by go_num, rfl, trivial⟩, by simp [intOf]; omega⟩
    · obtain rfl : j = n := by omega
      rw [List.take_of_length_le (by rw [← HN.out]; exact Nat.le_refl _)]
      go_wp2_with fail
      refine (refDigest_any (joined ps) _ hs).mono ?_
      rintro e w2 ⟨rfl, hb2⟩
      go_wp2
      go_ret
      exact ⟨rfl, hb2⟩

set_option maxHeartbeats 800000 in
set_option maxRecDepth 100000 in
theorem same_any {w : World} {v v' : Value} {ps : List ByteArray} (hp : Pieces w v ps) (hp' : Pieces w v' ps) (hn : ps.length ≤ 1000) :
    Calls Tryd.prog 36 #[v, v'] w fun e w' => e = .returned (.bool true) ∧ ∃ m, w' = w.drewN m := by
  obtain ⟨ad, c, rfl, hcs⟩ := hp
  obtain ⟨ad', c', rfl, hcs'⟩ := hp'
  have HC : Hid _ := hcs
  have HC' : Hid _ := hcs'
  clear hcs hcs'
  obtain ⟨n, hnn⟩ : ∃ n, n = ps.length := ⟨_, rfl⟩
  rw [← hnn] at hn ⊢
  have HN : Hid _ := hnn
  clear hnn
  go_enter Tryd.func36, Tryd.ntmps36
  go_wp2
  go_loopw [5] (fun i wr => ∃ j m : Nat, j ≤ n ∧ i = .int .i64 j ∧ wr = w.drewN m)
    (fun i _ => n - (intOf i).toNat)
  case atStart => exact ⟨0, 0, Nat.zero_le _, rfl, rfl⟩
  case round =>
    obtain ⟨j, m, hj, rfl, hwr⟩ := hrel
    by_cases hlt : j < n
    · have hjp : j < ps.length := by rw [← HN.out]; exact hlt
      obtain ⟨bl, off, rfl, hbl, hc⟩ := HC.out.resolve_left (fun e => by rw [e] at hjp; exact absurd hjp (Nat.not_lt_zero _))
      obtain ⟨bl', off', rfl, hbl', hc'⟩ := HC'.out.resolve_left (fun e => by rw [e] at hjp; exact absurd hjp (Nat.not_lt_zero _))
      have hcj : wr.cell? ⟨bl, off + j, none⟩ = some (.string ps[j]) := by rw [hwr]; exact hc j hjp
      have hcj' : wr.cell? ⟨bl', off' + j, none⟩ = some (.string ps[j]) := by rw [hwr]; exact hc' j hjp
      clear hc hc'
      generalize ps[j] = p at *
      have HW : Hid _ := hwr
      clear hwr
      have b0 : (0 : Int) ≤ (j : Int) := by omega
      have b1 : (j : Int) < (n : Int) := by omega
      go_wp2
      go_quiet (fail)
      go_wp2
      exact ⟨⟨j + 1, m + nq, by omega, by go_num, by rw [HW.out, World.drewN_drewN]⟩, by simp [intOf]; omega⟩
    · obtain rfl : j = n := by omega
      have HW : Hid _ := hwr
      clear hwr
      go_wp2
      go_ret
      exact ⟨rfl, m, HW.out⟩

theorem Tryd.info9 : (Tryd.prog.info? 9).map (fun i => (i.zero, i.size, i.bytes)) = some (some (.string ⟨#[]⟩), 1, 16) := by kernel_rfl

/-- The cells of a list of texts. -/
def textCells (ps : List ByteArray) : List Value := ps.map Value.string
theorem textCells_length (ps : List ByteArray) : (textCells ps).length = ps.length := by simp [textCells]
theorem textCells_one (ps : List ByteArray) : ∀ u ∈ textCells ps, u.oneCell' = true := by
  intro u hu
  obtain ⟨_, _, rfl⟩ := List.mem_map.1 hu
  rfl

def markS : ByteArray := ⟨#[109, 97, 114, 107]⟩

theorem owned_cell {w : World} {B n : Nat} {g cap : Nat} {xs : List Value} (h : w.ownsRow B 9 1 (.slice (some ⟨g, 0, none⟩) n cap) n xs) (j : Nat) (u : Value) (hj : xs[j]? = some u) : w.cell? ⟨g, j, none⟩ = some u := by
  have := h.cells (g := g) rfl j u hj
  rwa [Addr.add_mid, Nat.zero_add] at this

set_option maxHeartbeats 800000 in
set_option maxRecDepth 100000 in
theorem lend_any {w : World} {B : Nat} {v : Value} {ps : List ByteArray} (hown : w.ownsRow B 9 1 v ps.length (textCells ps)) (hn : ps.length ≤ 1000) :
    Calls Tryd.prog 19 #[v] w fun e w' => (∃ g cap, e = .returned (.slice (some ⟨g, 0, none⟩) ps.length cap) ∧ ps.length + 1 ≤ cap ∧ Pieces w' (.slice (some ⟨g, 0, none⟩) ps.length cap) ps ∧ w'.cell? ⟨g, ps.length, none⟩ = some (.string markS)) ∧ Below w.heap.size w w' := by
  obtain ⟨i0, hi, hz0, hz1, hz2⟩ := info_parts Tryd.info9
  have hr0 : (w.alloc (.cells #[] 9)).ownsRow w.heap.size 9 1 (.slice (some ⟨w.heap.size, 0, none⟩) 0 0) 0 [] := World.ownsRow_made w #[] 0 (Nat.le_refl _) (by decide) rfl
  rcases hown.2 with ⟨rfl, h0⟩ | ⟨g, cap, cur, rfl, _⟩
  · obtain rfl : ps = [] := List.eq_nil_of_length_eq_zero h0
    have hbw : Below w.heap.size w (w.alloc (.cells #[] 9)) := (Below.refl _ _).alloc (Nat.le_refl _) _
    have hsz2 : (w.alloc (.cells #[] 9)).heap.size = w.heap.size + 1 := by simp
    clear hown h0 hn
    go_enter Tryd.func19, Tryd.ntmps19
    go_wp2_with (first | (at_builtin; refine wpList_append_own _ rfl (.tmp 7) (.tmp 8) 29 rfl w.heap.size 9 i0 (.string ⟨#[]⟩) 1 16 Tryd.underlying29 hi hz0 hz1 hz2 rfl (by decide) _ _ _ rfl (hr0.alloc _) ⟨w.heap.size + 1, 0, none⟩ 1 1 [.string markS] rfl rfl (fun j u hu => by have := cell_list_new (w.alloc (.cells #[] 9)) [.string markS] 9 j u hu; rwa [hsz2] at this) (by intro u hu; simp at hu; subst hu; rfl) (by unfold maxLen; omega) (by omega) (by simp; omega) ?_))
    intro v2 w3 hown2 hgrow2 _
    have hb3 : Below w.heap.size w w3 := (hbw.alloc hbw.size _).grown hgrow2 (by simp; omega) (fun j hj => (hr0.lt j hj).1)
    obtain ⟨g, cap, cur, rfl, hg, hgg, hnc, hcm, _⟩ := hown2.2.resolve_left (fun h => by simp at h)
    have hP : Pieces w3 (.slice (some ⟨g, 0, none⟩) ([] : List ByteArray).length cap) [] := ⟨_, _, rfl, .inl rfl⟩
    have hM := owned_cell hown2 0 _ rfl
    clear hown2 hgrow2 hr0
    go_wp2
    go_ret
    exact ⟨⟨g, cap, rfl, hnc, hP, hM⟩, hb3⟩
  · go_enter Tryd.func19, Tryd.ntmps19
    go_wp2_with (first | (at_builtin; refine wpList_append_own _ rfl (.tmp 4) (.tmp 5) 29 rfl w.heap.size 9 i0 (.string ⟨#[]⟩) 1 16 Tryd.underlying29 hi hz0 hz1 hz2 rfl (by decide) _ _ _ rfl hr0 ⟨g, 0, none⟩ ps.length cap (textCells ps) rfl (by rw [textCells_length]; omega) (fun j u hu => by rw [Addr.add_mid, Nat.zero_add]; exact owned_cell (hown.alloc (.cells #[] 9)) j u hu) (textCells_one ps) (by unfold maxLen; omega) (by omega) (by simp) ?_))
    intro v1 w2 hown1 hgrow1 _
    have hbw : Below w.heap.size w w2 := ((Below.refl w.heap.size w).alloc (Nat.le_refl _) (.cells #[] 9)).grown hgrow1 (by simp) (fun j hj => by simp [Value.ownBlock] at hj; omega)
    clear hgrow1
    have hb2 : Below w.heap.size w w2 := hbw
    clear hbw
    go_wp2_with (first | (at_builtin; refine wpList_append_own _ rfl (.tmp 7) (.tmp 8) 29 rfl w.heap.size 9 i0 (.string ⟨#[]⟩) 1 16 Tryd.underlying29 hi hz0 hz1 hz2 rfl (by decide) _ _ _ rfl (hown1.alloc _) ⟨w2.heap.size, 0, none⟩ 1 1 [.string markS] rfl rfl (cell_list_new _ _ _) (by intro u hu; simp at hu; subst hu; rfl) (by unfold maxLen; omega) (by omega) (by have := hb2.size; simp; omega) ?_))
    intro v2 w3 hown2 hgrow2 _
    have hb3 : Below w.heap.size w w3 := (hb2.alloc hb2.size _).grown hgrow2 (by have := hb2.size; simp; omega) (fun j hj => (hown1.lt j hj).1)
    obtain ⟨g, cap, cur, rfl, hg, hgg, hnc, hcm, _⟩ := hown2.2.resolve_left (fun h => by omega)
    have hcell := owned_cell hown2
    have hP : Pieces w3 (.slice (some ⟨g, 0, none⟩) ps.length cap) ps := ⟨_, _, rfl, .inr ⟨g, 0, rfl, lt_of_block hgg, fun k hk => by
      rw [Nat.zero_add]
      exact hcell k _ (by rw [List.getElem?_append_left (by rw [textCells_length]; exact hk)]; simp [textCells, List.getElem?_eq_getElem hk])⟩⟩
    have hM : w3.cell? ⟨g, ps.length, none⟩ = some (.string markS) := hcell _ _ (by rw [List.getElem?_append_right (by rw [textCells_length]; exact Nat.le_refl _)]; simp [textCells_length])
    have b1 : (ps.length : Int) ≤ (cap : Int) := by omega
    clear hown1 hown2 hgrow2 hcell hr0
    go_wp2
    go_ret
    exact ⟨⟨g, cap, rfl, hnc, hP, hM⟩, hb3⟩

end Go.Proofs.YtgpdmboeompncaaDoor

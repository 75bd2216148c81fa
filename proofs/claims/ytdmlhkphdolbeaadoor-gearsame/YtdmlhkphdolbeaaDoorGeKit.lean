/-
  Gear: lists of texts that are read, are they the same; spoilt; what is turned.
-/
import Derived.Test.YtdmlhkphdolbeaaDoorStKit
import Derived.Test.YtdmlhkphdolbeaaDoorGeMath
namespace Go.Proofs.YtdmlhkphdolbeaaDoor
open Go.RowKit Go.Lib Go.Maps

theorem Gs.set {p : Nat → Prop} {w w1 : World} (h : Gs p w w1) {a : Addr} (ha : p a.block ∨ w.heap.size ≤ a.block) (u : Value) : Gs p w (w1.setCell a u) :=
  ⟨h.os, h.tape, h.output, by simp [World.setCell]; exact h.size, fun i hi hp => (Below.heap_setCell _ _ _ _ (by
    intro e
    rcases ha with ha | ha
    · rw [← e] at ha; exact hp ha
    · omega)).trans (h.block i hi hp)⟩
theorem Gs.ofd (p : Nat → Prop) {w w1 : World} (h : Below w.drew.heap.size w.drew w1) : Gs p w w1 := ⟨h.os, h.tape, h.output, h.size, fun i hi _ => h.block i hi⟩
/-- A list of texts lies in memory. -/
def TR (w : World) (v : Value) (l : List ByteArray) : Prop :=
  ∃ a c, v = .slice a l.length c ∧ (l = [] ∨ ∃ g o, a = some ⟨g, o, none⟩ ∧ g < w.heap.size ∧ ∀ i x, l[i]? = some x → w.cell? ⟨g, o + i, none⟩ = some (.string x))
section
variable {w w' : World} {v : Value} {l : List ByteArray} {B : Nat}
theorem TS.tr (h : TS B v l w) : TR w v l := by
  obtain ⟨h1, ⟨rfl, h2⟩ | ⟨g, cap, cur, rfl, hB, hg, hn, _, hs, ht⟩⟩ := h.own
  · exact ⟨_, _, by rw [h2], .inl (List.length_eq_zero_iff.1 h2)⟩
  · refine ⟨_, _, rfl, .inr ⟨g, 0, rfl, lt_of_block hg, fun i x hx => ?_⟩⟩
    have hl : i < l.length := (List.getElem?_eq_some_iff.1 hx).1
    have e0 : (tc l)[i]? = some (.string x) := by rw [tc, List.getElem?_map, hx]; rfl
    rw [← ht, List.getElem?_take, if_pos (by omega)] at e0
    rw [Nat.zero_add, cell_of_row w g _ _ _ _ hg]
    simpa using e0
theorem TR.below (h : TR w v l) {B : Nat} (hb : Below B w w') (hB : w.heap.size ≤ B) : TR w' v l := by
  obtain ⟨a, c, e, h | ⟨g, o, ea, hg, hC⟩⟩ := h
  · exact ⟨a, c, e, .inl h⟩
  · exact ⟨a, c, e, .inr ⟨g, o, ea, Nat.lt_of_lt_of_le hg hb.size, fun i x hx => (hb.cell (p := ⟨g, o + i, none⟩) (Nat.lt_of_lt_of_le hg hB)).trans (hC i x hx)⟩⟩
theorem TR.bel (h : TR w v l) (hb : Below w.heap.size w w') : TR w' v l := h.below hb (Nat.le_refl _)
theorem TR.drew (h : TR w v l) : TR w.drew v l := h
end

set_option maxRecDepth 100000 in
set_option maxHeartbeats 800000 in
theorem sameTexts_big {w : World} {u v : Value} {l : List ByteArray} (hu : TR w u l) (hv : TR w v l) (hl : l.length ≤ 4611686018427387904) :
    Calls Tryd.prog 16 #[u, v] w fun e w' => e = .returned (.bool true) ∧ Below w.heap.size w w' := by
  obtain ⟨a, c, rfl, hA⟩ := hu
  obtain ⟨a', c', rfl, hA'⟩ := hv
  obtain ⟨N, hN⟩ : ∃ N, N = l.length := ⟨_, rfl⟩
  have HN := hide hN
  have hNl : N ≤ 4611686018427387904 := by omega
  rw [← hN]
  have HA := hide hA
  have HA' := hide hA'
  clear hN hA hA' hl
  go_enter Tryd.func16, Tryd.ntmps16
  go_wp2
  go_loopw [5] (fun i wr => ∃ j : Nat, j ≤ N ∧ i = .int .i64 j ∧ Below w.heap.size w wr) (fun i _ => N - (intOf i).toNat)
  case atStart => exact ⟨0, Nat.zero_le _, rfl, Below.refl _ _⟩
  case round =>
    obtain ⟨j, hj, rfl, hb⟩ := hrel
    have HB := hide hb
    by_cases hlt : j < N
    · have hjl : j < l.length := by rw [← HN.out]; omega
      obtain ⟨x, hx⟩ : ∃ x, l[j]? = some x := ⟨_, List.getElem?_eq_getElem hjl⟩
      obtain ⟨g, o, rfl, hg, hC⟩ := HA.out.resolve_left (by intro e; rw [e] at hx; simp at hx)
      obtain ⟨g', o', rfl, hg', hC'⟩ := HA'.out.resolve_left (by intro e; rw [e] at hx; simp at hx)
      have z1 := (hb.cell (p := ⟨g, o + j, none⟩) hg).trans (hC j x hx)
      have z2 := (hb.cell (p := ⟨g', o' + j, none⟩) hg').trans (hC' j x hx)
      have b1 : (j : Int) < (N : Int) := by omega
      have b0 : (0 : Int) ≤ (j : Int) := by omega
      have HB2 := hide HB.out.drew
      clear hC hC' hx hb
      go_upto_region 6 with fail
      go_region
      go_wp2
      exact ⟨⟨j + 1, by omega, by go_num, HB2.out⟩, by simp [intOf]; omega⟩
    · obtain rfl : j = N := by omega
      clear hb
      go_wp2
      go_ret
      exact ⟨rfl, HB.out⟩

set_option maxRecDepth 100000 in
set_option maxHeartbeats 800000 in
theorem spoil_big {w : World} {B : Nat} {v : Value} {l : List ByteArray} (h : TS B v l w) (hl : l.length ≤ 4611686018427387904) :
    Calls Tryd.prog 17 #[v] w fun e w' => e = .returned (.tuple #[]) ∧ Gs (fun i => v.ownBlock = some i) w w' := by
  obtain ⟨h1, ⟨rfl, h2⟩ | ⟨g, cap, cur, rfl, hB, hg, hn, hcc, hs, ht⟩⟩ := h.own
  · go_enter Tryd.func17, Tryd.ntmps17
    go_wp2
    go_loopw [2] (fun i wr => i = .int .i64 0 ∧ wr = w) (fun _ _ => 0)
    case atStart => exact ⟨rfl, rfl⟩
    case round =>
      obtain ⟨rfl, rfl⟩ := hrel
      go_wp2
      go_end0
      exact ⟨rfl, Gs.refl _ _⟩
  · obtain ⟨N, hN⟩ : ∃ N, N = l.length := ⟨_, rfl⟩
    rw [← hN] at hn hl ⊢
    have hcs : N ≤ cur.size := by
      have := congrArg List.length ht
      simp [tc] at this
      omega
    have HG := hide hg
    clear h h1 hg ht hs hcc hn hN
    go_enter Tryd.func17, Tryd.ntmps17
    go_wp2
    go_loopw [2] (fun i wr => ∃ (j : Nat) (cu : Array Value), j ≤ N ∧ i = .int .i64 j ∧ wr.heap[g]? = some (.cells cu 9 (0, 0)) ∧ N ≤ cu.size ∧ Gs (fun i => (Value.slice (some ⟨g, 0, none⟩) N cap).ownBlock = some i) w wr) (fun i _ => N - (intOf i).toNat)
    case atStart => exact ⟨0, cur, Nat.zero_le _, rfl, HG.out, hcs, Gs.refl _ _⟩
    case round =>
      obtain ⟨j, cu, hj, rfl, hgr, hcu, hG⟩ := hrel
      by_cases hlt : j < N
      · have b1 : (j : Int) < (N : Int) := by omega
        have b0 : (0 : Int) ≤ (j : Int) := by omega
        have y1 : wr.cell? ⟨g, j, none⟩ = some (cu[j]'(by omega)) := by simp [World.cell?, hgr]
        have z1 : wr.frozen? ⟨g, j, none⟩ = false := by simp [World.frozen?, hgr]
        have HE : Hid ((wr.setCell ⟨g, j, none⟩ (.string ⟨#[115, 112, 111, 105, 108, 116]⟩)).heap[g]? = some (.cells (cu.setIfInBounds j (.string ⟨#[115, 112, 111, 105, 108, 116]⟩)) 9 (0, 0)) ∧ Gs (fun i => (Value.slice (some ⟨g, 0, none⟩) N cap).ownBlock = some i) w (wr.setCell ⟨g, j, none⟩ (.string ⟨#[115, 112, 111, 105, 108, 116]⟩))) :=
          ⟨heap_set_self hgr, hG.set (a := ⟨g, j, none⟩) (.inl rfl) _⟩
        clear hgr hG
        generalize cu[j]'(by omega) = uu at *
        go_wp2
        exact ⟨⟨j + 1, _, by omega, by go_num, HE.out.1, by simpa using hcu, HE.out.2⟩, by simp [intOf]; omega⟩
      · obtain rfl : j = N := by omega
        have HE := hide hG
        clear hG hgr
        go_wp2
        go_end0
        exact ⟨rfl, HE.out⟩

end Go.Proofs.YtdmlhkphdolbeaaDoor

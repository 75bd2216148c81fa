/-
  What the statements share: lists of texts that are read, are they the same; the chapter's example.
-/
import Derived.Test.YtillnffhhmkgdaaPsDo
namespace Go.Proofs.Ytillnffhhmkgdaa
open Go.RowKit Go.Lib Go.Maps

/-- A list of texts lies in memory. -/
def TR (w : World) (v : Value) (l : List ByteArray) : Prop :=
  ∃ a c, v = .slice a l.length c ∧ (l = [] ∨ ∃ g o, a = some ⟨g, o, none⟩ ∧ g < w.heap.size ∧ ∀ i x, l[i]? = some x → w.cell? ⟨g, o + i, none⟩ = some (.string x))
section
variable {w w' : World} {v : Value} {l : List ByteArray} {B : Nat}
theorem TS.tr (h : TS B v l w) : TR w v l := by
  obtain ⟨h1, ⟨rfl, h2⟩ | ⟨g, cap, cur, rfl, hB, hg, hn, _, hs, ht⟩⟩ := h.own
  · exact ⟨_, _, by rw [h2], .inl (List.length_eq_zero_iff.1 h2)⟩
  · refine ⟨_, _, rfl, .inr ⟨g, 0, rfl, lt_of_block hg, fun i x hx => ?_⟩⟩
    have hl : i < l.length := (List.getElem?_eq_some_iff.1 hx).1
    have e0 : (tc l)[i]? = some (.string x) := by rw [tc, List.getElem?_map, hx]; rfl
    rw [← ht, List.getElem?_take, if_pos (by omega)] at e0
    rw [Nat.zero_add, cell_of_row w g _ _ _ _ hg]
    simpa using e0
theorem TR.below (h : TR w v l) {B : Nat} (hb : Below B w w') (hB : w.heap.size ≤ B) : TR w' v l := by
  obtain ⟨a, c, e, h | ⟨g, o, ea, hg, hC⟩⟩ := h
  · exact ⟨a, c, e, .inl h⟩
  · exact ⟨a, c, e, .inr ⟨g, o, ea, Nat.lt_of_lt_of_le hg hb.size, fun i x hx => (hb.cell (p := ⟨g, o + i, none⟩) (Nat.lt_of_lt_of_le hg hB)).trans (hC i x hx)⟩⟩
theorem TR.bel (h : TR w v l) (hb : Below w.heap.size w w') : TR w' v l := h.below hb (Nat.le_refl _)
theorem TR.drew (h : TR w v l) : TR w.drew v l := h
end

set_option maxRecDepth 100000 in
set_option maxHeartbeats 800000 in
theorem sameTexts_eq {w : World} {u v : Value} {l : List ByteArray} (hu : TR w u l) (hv : TR w v l) (hl : l.length ≤ 1000000000) :
    Calls Try.prog 14 #[u, v] w fun e w' => e = .returned (.bool true) ∧ Below w.heap.size w w' := by
  obtain ⟨a, c, rfl, hA⟩ := hu
  obtain ⟨a', c', rfl, hA'⟩ := hv
  obtain ⟨N, hN⟩ : ∃ N, N = l.length := ⟨_, rfl⟩
  have HN := hide hN
  have hNl : N ≤ 1000000000 := by omega
  rw [← hN]
  have HA := hide hA
  have HA' := hide hA'
  clear hN hA hA' hl
  go_enter Try.func14, Try.ntmps14
  go_wp2
  go_loopw [5] (fun i wr => ∃ j : Nat, j ≤ N ∧ i = .int .i64 j ∧ Below w.heap.size w wr) (fun i _ => N - (intOf i).toNat)
  case atStart => exact ⟨0, Nat.zero_le _, rfl, Below.refl _ _⟩
  case round =>
    obtain ⟨j, hj, rfl, hb⟩ := hrel
    have HB := hide hb
    by_cases hlt : j < N
    · have hjl : j < l.length := by rw [← HN.out]; omega
      obtain ⟨x, hx⟩ : ∃ x, l[j]? = some x := ⟨_, List.getElem?_eq_getElem hjl⟩
      obtain ⟨g, o, rfl, hg, hC⟩ := HA.out.resolve_left (by intro e; rw [e] at hx; simp at hx)
      obtain ⟨g', o', rfl, hg', hC'⟩ := HA'.out.resolve_left (by intro e; rw [e] at hx; simp at hx)
      have z1 := (hb.cell (p := ⟨g, o + j, none⟩) hg).trans (hC j x hx)
      have z2 := (hb.cell (p := ⟨g', o' + j, none⟩) hg').trans (hC' j x hx)
      have b1 : (j : Int) < (N : Int) := by omega
      have b0 : (0 : Int) ≤ (j : Int) := by omega
      have HB2 := hide HB.out.drew
      clear hC hC' hx hb
      go_upto_region 6 with fail
      go_region
      go_wp2
      exact ⟨⟨j + 1, by omega, by go_num, HB2.out⟩, by simp [intOf]; omega⟩
    · obtain rfl : j = N := by omega
      clear hb
      go_wp2
      go_ret
      exact ⟨rfl, HB.out⟩

/-- An answer, opened. -/
theorem AR.shp {w : World} {B : Nat} {v : Value} {r : RR} (h : AR w B v r) : ∃ a c, v = .agg #[.int .i64 r.c, .string r.d, .slice a r.l.length c] ∧ TS B (.slice a r.l.length c) r.l w := by
  obtain ⟨u, rfl, hT⟩ := h
  obtain ⟨a, c, rfl⟩ := hT.shp
  exact ⟨a, c, rfl, hT⟩
theorem Gs.fresh {p : Nat → Prop} {w w1 w' : World} (h : Below w.heap.size w w1) (k : Gs p w1 w') (hp : ∀ i, p i → w.heap.size ≤ i) : Below w.heap.size w w' := k.below h h.size hp
theorem two_fresh {B b mb : Nat} (hb : B ≤ b) (hm : B ≤ mb) : ∀ i, two b mb i → B ≤ i := fun i h => by
  rcases h with rfl | rfl
  · exact hb
  · exact hm
def tA : ByteArray := ⟨#[97]⟩
def tB : ByteArray := ⟨#[98, 99, 100]⟩
def tC : ByteArray := ⟨#[98, 99, 100, 101]⟩
theorem ex1 : doR ⟨4, 0, 0, false, []⟩ 1 ⟨#[97]⟩ ⟨#[98, 99, 100]⟩ = ⟨0, ⟨#[]⟩, []⟩ := by kernel_rfl
theorem ex2 : doS ⟨4, 0, 0, false, []⟩ 1 ⟨#[97]⟩ ⟨#[98, 99, 100]⟩ = ⟨4, 0, 1, false, [⟨⟨#[97]⟩, ⟨#[98, 99, 100]⟩⟩]⟩ := by kernel_rfl
theorem ex3 : doR ⟨4, 0, 1, false, [⟨⟨#[97]⟩, ⟨#[98, 99, 100]⟩⟩]⟩ 1 ⟨#[97]⟩ ⟨#[98, 99, 100, 101]⟩ = ⟨71, ⟨#[]⟩, []⟩ := by kernel_rfl
theorem ex4 : doS ⟨4, 0, 1, false, [⟨⟨#[97]⟩, ⟨#[98, 99, 100]⟩⟩]⟩ 1 ⟨#[97]⟩ ⟨#[98, 99, 100, 101]⟩ = ⟨4, 0, 2, false, [⟨⟨#[97]⟩, ⟨#[98, 99, 100]⟩⟩]⟩ := by kernel_rfl
theorem ex5 : doR ⟨4, 0, 2, false, [⟨⟨#[97]⟩, ⟨#[98, 99, 100]⟩⟩]⟩ 2 ⟨#[97]⟩ ⟨#[]⟩ = ⟨0, ⟨#[98, 99, 100]⟩, []⟩ := by kernel_rfl

set_option maxRecDepth 100000 in
set_option maxHeartbeats 3200000 in
theorem works_any (w : World) : Calls Try.prog 7 #[] w fun e w' => e = .returned (.bool true) ∧ Below w.heap.size w w' := by
  have HN : Hid _ := hide (new_ok 4 w (by decide) (by decide))
  go_enter Try.func7, Try.ntmps7
  go_wp2_with fail
  refine HN.out.mono ?_
  rintro e w1 ⟨rfl, hP1, hb1⟩
  have hP1 : PX w1 (w.heap.size + 1) w.heap.size ⟨4, 0, 0, false, []⟩ := hP1
  have HD1 : Hid _ := hide (do_any hP1 0 1 ⟨#[97]⟩ ⟨#[98, 99, 100]⟩ (by decide) (by decide) (by decide) (by decide) (by decide) (by decide))
  rw [ex1, ex2] at HD1
  have HB1 := hide hb1
  clear HN hP1 hb1
  go_wp2_with fail
  refine HD1.out.mono ?_
  rintro e w2 ⟨v2, rfl, hA2, hP2, hg2⟩
  obtain ⟨a2, c2, rfl, _⟩ := hA2.shp
  have HB2 := hide (Gs.fresh HB1.out hg2 (two_fresh (by omega) (by omega)))
  have hal2 : Below w2.heap.size w2 (w2.alloc (.cells #[.int .i64 0, .string ⟨#[]⟩, .slice a2 0 c2] 48)) := (Below.refl _ _).alloc (Nat.le_refl _) _
  obtain ⟨U2, hU2⟩ : ∃ U2, U2 = w2.alloc (.cells #[.int .i64 0, .string ⟨#[]⟩, .slice a2 0 c2] 48) := ⟨_, rfl⟩
  have k2 : U2.heap[w2.heap.size]? = some (.cells #[.int .i64 0, .string ⟨#[]⟩, .slice a2 0 c2] 48 (0, 0)) := by rw [hU2]; exact heap_alloc_new _ _
  rw [← hU2] at hal2
  have hL2 : w.heap.size + 1 < w2.heap.size := PS.lt hP2
  have hP2 : PS U2 (w.heap.size + 1) w.heap.size 4 0 false 1 [⟨⟨#[97]⟩, ⟨#[98, 99, 100]⟩⟩] := PS.bel hP2 hal2
  have hP2 : PX U2 (w.heap.size + 1) w.heap.size ⟨4, 0, 1, false, [⟨⟨#[97]⟩, ⟨#[98, 99, 100]⟩⟩]⟩ := hP2
  have HBU2 : Hid (Below w.heap.size w U2) := HB2.out.trans (hal2.mono HB2.out.size)
  have HK2 := hide k2
  have HD2 : Hid _ := hide (do_any hP2 0 1 ⟨#[97]⟩ ⟨#[98, 99, 100, 101]⟩ (by decide) (by decide) (by decide) (by decide) (by decide) (by decide))
  rw [ex3, ex4] at HD2
  have HU2 := hide hU2
  have HL2 := hide hL2
  have HS2 : Hid (w2.heap.size < U2.heap.size) := by show _ < _; rw [hU2]; simp
  clear hP2 hal2 k2 hU2 hg2 hL2 HD1 hA2
  go_upto_region 5 with fail
  rw [← HU2.out]
  go_wp2_with fail
  refine HD2.out.mono ?_
  rintro e w3 ⟨v3, rfl, hA3, hP3, hg3⟩
  obtain ⟨a3, c3, rfl, _⟩ := hA3.shp
  obtain ⟨U3, hU3⟩ : ∃ U3, U3 = w3.alloc (.cells #[.int .i64 71, .string ⟨#[]⟩, .slice a3 0 c3] 48) := ⟨_, rfl⟩
  have hal3 : Below w3.heap.size w3 U3 := by rw [hU3]; exact (Below.refl _ _).alloc (Nat.le_refl _) _
  have hL3 : w2.heap.size < w3.heap.size := Nat.lt_of_lt_of_le HS2.out hg3.size
  have hb3 := Gs.fresh HBU2.out hg3 (two_fresh (by omega) (by omega))
  have k3 : U3.heap[w3.heap.size]? = some (.cells #[.int .i64 71, .string ⟨#[]⟩, .slice a3 0 c3] 48 (0, 0)) := by rw [hU3]; exact heap_alloc_new _ _
  have k2 : U3.heap[w2.heap.size]? = _ := (hal3.block _ hL3).trans ((hg3.block _ HS2.out (by have := HL2.out; rintro (e | e) <;> omega)).trans HK2.out)
  have hP3 : PS U3 (w.heap.size + 1) w.heap.size 4 0 false 2 [⟨⟨#[97]⟩, ⟨#[98, 99, 100]⟩⟩] := PS.bel hP3 hal3
  have hP3 : PX U3 (w.heap.size + 1) w.heap.size ⟨4, 0, 2, false, [⟨⟨#[97]⟩, ⟨#[98, 99, 100]⟩⟩]⟩ := hP3
  have HBU3 : Hid (Below w.heap.size w U3) := hb3.trans (hal3.mono hb3.size)
  have HD3 : Hid _ := hide (do_any hP3 0 2 ⟨#[97]⟩ ⟨#[]⟩ (by decide) (by decide) (by decide) (by decide) (by decide) (by decide))
  rw [ex5] at HD3
  have HU3 := hide hU3
  have HK3 := hide (And.intro k2 k3)
  have HS3 : Hid (w3.heap.size < U3.heap.size ∧ w2.heap.size < w3.heap.size) := ⟨by rw [hU3]; simp, hL3⟩
  clear hP3 hal3 k2 k3 hU3 hg3 hL3 hb3 HD2 hA3
  go_upto_region 6 with fail
  rw [← HU3.out]
  go_wp2_with fail
  refine HD3.out.mono ?_
  rintro e w4 ⟨v4, rfl, hA4, hP4, hg4⟩
  obtain ⟨a4, c4, rfl, _⟩ := hA4.shp
  have hb4 := Gs.fresh HBU3.out hg4 (two_fresh (by omega) (by omega))
  have e2 : w4.heap[w2.heap.size]? = _ := (hg4.block _ (by have := HS3.out; omega) (by have := HL2.out; rintro (e | e) <;> omega)).trans HK3.out.1
  have e3 : w4.heap[w3.heap.size]? = _ := (hg4.block _ HS3.out.1 (by have := HS3.out.2; have := HL2.out; rintro (e | e) <;> omega)).trans HK3.out.2
  have hs4 := hg4.size
  have y2 : (w4.alloc (.cells #[.int .i64 0, .string ⟨#[98, 99, 100]⟩, .slice a4 0 c4] 48)).cell? ⟨w2.heap.size, 0, none⟩ = some (.int .i64 0) := by
    simp only [World.cell?]
    rw [Below.heap_alloc _ _ _ (lt_of_block e2), e2]
    rfl
  have y3 : (w4.alloc (.cells #[.int .i64 0, .string ⟨#[98, 99, 100]⟩, .slice a4 0 c4] 48)).cell? ⟨w3.heap.size, 0, none⟩ = some (.int .i64 71) := by
    simp only [World.cell?]
    rw [Below.heap_alloc _ _ _ (lt_of_block e3), e3]
    rfl
  have HB4 := hide hb4
  clear e2 e3 hs4 hg4 hP4 hA4 hb4
  go_wp2
  go_ret
  exact ⟨rfl, HB4.out.alloc HB4.out.size _⟩
end Go.Proofs.Ytillnffhhmkgdaa

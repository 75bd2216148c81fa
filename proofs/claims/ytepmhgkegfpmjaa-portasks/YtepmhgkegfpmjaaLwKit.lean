/-
  What the statements share: lists of texts that are read, are they the same; the chapter's example.
-/
import Derived.Test.YtepmhgkegfpmjaaPsDo
namespace Go.Proofs.Ytepmhgkegfpmjaa
open Go.RowKit Go.Lib Go.Maps

/-- A list of texts lies in memory. -/
def TR (w : World) (v : Value) (l : List ByteArray) : Prop :=
  ∃ a c, v = .slice a l.length c ∧ (l = [] ∨ ∃ g o, a = some ⟨g, o, none⟩ ∧ g < w.heap.size ∧ ∀ i x, l[i]? = some x → w.cell? ⟨g, o + i, none⟩ = some (.string x))
section
variable {w w' : World} {v : Value} {l : List ByteArray} {B : Nat}
theorem TS.tr (h : TS B v l w) : TR w v l := by
  obtain ⟨h1, ⟨rfl, h2⟩ | ⟨g, cap, cur, rfl, hB, hg, hn, _, hs, ht⟩⟩ := h.own
  · exact ⟨_, _, by rw [h2], .inl (List.length_eq_zero_iff.1 h2)⟩
  · refine ⟨_, _, rfl, .inr ⟨g, 0, rfl, lt_of_block hg, fun i x hx => ?_⟩⟩
    have hl : i < l.length := (List.getElem?_eq_some_iff.1 hx).1
    have e0 : (tc l)[i]? = some (.string x) := by rw [tc, List.getElem?_map, hx]; rfl
    rw [← ht, List.getElem?_take, if_pos (by omega)] at e0
    rw [Nat.zero_add, cell_of_row w g _ _ _ _ hg]
    simpa using e0
theorem TR.below (h : TR w v l) {B : Nat} (hb : Below B w w') (hB : w.heap.size ≤ B) : TR w' v l := by
  obtain ⟨a, c, e, h | ⟨g, o, ea, hg, hC⟩⟩ := h
  · exact ⟨a, c, e, .inl h⟩
  · exact ⟨a, c, e, .inr ⟨g, o, ea, Nat.lt_of_lt_of_le hg hb.size, fun i x hx => (hb.cell (p := ⟨g, o + i, none⟩) (Nat.lt_of_lt_of_le hg hB)).trans (hC i x hx)⟩⟩
theorem TR.bel (h : TR w v l) (hb : Below w.heap.size w w') : TR w' v l := h.below hb (Nat.le_refl _)
theorem TR.drew (h : TR w v l) : TR w.drew v l := h
end

set_option maxRecDepth 100000 in
set_option maxHeartbeats 800000 in
theorem sameTexts_eq {w : World} {u v : Value} {l : List ByteArray} (hu : TR w u l) (hv : TR w v l) (hl : l.length ≤ 1000000000) :
    Calls Try.prog 22 #[u, v] w fun e w' => e = .returned (.bool true) ∧ Below w.heap.size w w' := by
  obtain ⟨a, c, rfl, hA⟩ := hu
  obtain ⟨a', c', rfl, hA'⟩ := hv
  obtain ⟨N, hN⟩ : ∃ N, N = l.length := ⟨_, rfl⟩
  have HN := hide hN
  have hNl : N ≤ 1000000000 := by omega
  rw [← hN]
  have HA := hide hA
  have HA' := hide hA'
  clear hN hA hA' hl
  go_enter Try.func22, Try.ntmps22
  go_wp2
  go_loopw [5] (fun i wr => ∃ j : Nat, j ≤ N ∧ i = .int .i64 j ∧ Below w.heap.size w wr) (fun i _ => N - (intOf i).toNat)
  case atStart => exact ⟨0, Nat.zero_le _, rfl, Below.refl _ _⟩
  case round =>
    obtain ⟨j, hj, rfl, hb⟩ := hrel
    have HB := hide hb
    by_cases hlt : j < N
    · have hjl : j < l.length := by rw [← HN.out]; omega
      obtain ⟨x, hx⟩ : ∃ x, l[j]? = some x := ⟨_, List.getElem?_eq_getElem hjl⟩
      obtain ⟨g, o, rfl, hg, hC⟩ := HA.out.resolve_left (by intro e; rw [e] at hx; simp at hx)
      obtain ⟨g', o', rfl, hg', hC'⟩ := HA'.out.resolve_left (by intro e; rw [e] at hx; simp at hx)
      have z1 := (hb.cell (p := ⟨g, o + j, none⟩) hg).trans (hC j x hx)
      have z2 := (hb.cell (p := ⟨g', o' + j, none⟩) hg').trans (hC' j x hx)
      have b1 : (j : Int) < (N : Int) := by omega
      have b0 : (0 : Int) ≤ (j : Int) := by omega
      have HB2 := hide HB.out.drew
      clear hC hC' hx hb
      go_upto_region 6 with fail
      go_region
      go_wp2
      exact ⟨⟨j + 1, by omega, by go_num, HB2.out⟩, by simp [intOf]; omega⟩
    · obtain rfl : j = N := by omega
      clear hb
      go_wp2
      go_ret
      exact ⟨rfl, HB.out⟩

/-- An answer, opened. -/
theorem AR.shp {w : World} {B : Nat} {v : Value} {r : RR} (h : AR w B v r) : ∃ a c, v = .agg #[.int .i64 r.c, .string r.d, .slice a r.l.length c] ∧ TS B (.slice a r.l.length c) r.l w := by
  obtain ⟨u, rfl, hT⟩ := h
  obtain ⟨a, c, rfl⟩ := hT.shp
  exact ⟨a, c, rfl, hT⟩
theorem Gs.fresh {p : Nat → Prop} {w w1 w' : World} (h : Below w.heap.size w w1) (k : Gs p w1 w') (hp : ∀ i, p i → w.heap.size ≤ i) : Below w.heap.size w w' := k.below h h.size hp
theorem two_fresh {B b mb : Nat} (hb : B ≤ b) (hm : B ≤ mb) : ∀ i, two b mb i → B ≤ i := fun i h => by
  rcases h with rfl | rfl
  · exact hb
  · exact hm
def tA : ByteArray := ⟨#[97]⟩
def tB : ByteArray := ⟨#[98, 99, 100]⟩
def tC : ByteArray := ⟨#[98, 99, 100, 101]⟩
theorem ex1 : doR ⟨4, 0, 0, false, []⟩ 1 ⟨#[97]⟩ ⟨#[98, 99, 100]⟩ = ⟨0, ⟨#[]⟩, []⟩ := by kernel_rfl
theorem ex2 : doS ⟨4, 0, 0, false, []⟩ 1 ⟨#[97]⟩ ⟨#[98, 99, 100]⟩ = ⟨4, 0, 1, false, [⟨⟨#[97]⟩, ⟨#[98, 99, 100]⟩⟩]⟩ := by kernel_rfl
theorem ex3 : doR ⟨4, 0, 1, false, [⟨⟨#[97]⟩, ⟨#[98, 99, 100]⟩⟩]⟩ 1 ⟨#[97]⟩ ⟨#[98, 99, 100, 101]⟩ = ⟨71, ⟨#[]⟩, []⟩ := by kernel_rfl
theorem ex4 : doS ⟨4, 0, 1, false, [⟨⟨#[97]⟩, ⟨#[98, 99, 100]⟩⟩]⟩ 1 ⟨#[97]⟩ ⟨#[98, 99, 100, 101]⟩ = ⟨4, 0, 2, false, [⟨⟨#[97]⟩, ⟨#[98, 99, 100]⟩⟩]⟩ := by kernel_rfl
theorem ex5 : doR ⟨4, 0, 2, false, [⟨⟨#[97]⟩, ⟨#[98, 99, 100]⟩⟩]⟩ 2 ⟨#[97]⟩ ⟨#[]⟩ = ⟨0, ⟨#[98, 99, 100]⟩, []⟩ := by kernel_rfl

end Go.Proofs.Ytepmhgkegfpmjaa

/-
  Parts chosen out of all shards.
-/
import Derived.Test.YtfjkdmiaagalhaaJoinU
import Derived.Test.YtfjkdmiaagalhaaAmong
import Derived.Deep.RegionHeldLaw
namespace Go.Proofs.Ytfjkdmiaagalhaa
open Go.RowKit Go.Lib Go.Maps

theorem IL.nep {B B' n : Nat} {L : List Nat} {w : World} {v v' : Value} {I : Nat → Int} {X : Nat → ByteArray} (h : IL B v L w) (h' : IP B' v' n I X w) (b : Nat) (hb : v.ownBlock = some b) : v'.ownBlock ≠ some b := by
  rcases h.own.2 with ⟨rfl, _⟩ | ⟨g, cap, cur, e, hB, hg, r⟩
  · simp [Value.ownBlock] at hb
  · rw [e] at hb
    simp [Value.ownBlock] at hb
    subst hb
    rcases h'.own.2 with ⟨rfl, _⟩ | ⟨g', cap', cur', e', hB', hg', r'⟩
    · simp [Value.ownBlock]
    · intro e2
      rw [e'] at e2
      simp [Value.ownBlock] at e2
      subst e2
      rw [hg] at hg'
      simp at hg'
theorem IP.apart {B n : Nat} {w w' : World} {v : Value} {I : Nat → Int} {X : Nat → ByteArray} {row : Option Nat} (h : IP B v n I X w) (hg : w.grownBy w' row) (ha : ∀ b, v.ownBlock = some b → row ≠ some b) : IP B v n I X w' := by
  refine ⟨h.own.1, ?_⟩
  rcases h.own.2 with h2 | ⟨g, cap, cur, e, hB, hgg, r⟩
  · exact .inl h2
  · exact .inr ⟨g, cap, cur, e, hB, (hg.block g (lt_of_block hgg) (by have := ha g (by rw [e]; rfl); exact fun x => this x.symm)).trans hgg, r⟩
theorem getD_left {L : List Nat} (x : Nat) {t : Nat} (h : t < L.length) : (L ++ [x]).getD t 0 = L.getD t 0 := by
  rw [List.getD_eq_getElem?_getD, List.getD_eq_getElem?_getD, List.getElem?_append_left h]
theorem getD_last (L : List Nat) (x : Nat) : (L ++ [x]).getD L.length 0 = x := by
  rw [List.getD_eq_getElem?_getD, List.getElem?_append_right (Nat.le_refl _), Nat.sub_self]; rfl
structure Two5 (B nn i : Nat) (X : Nat → ByteArray) (vl vr : Value) (L1 L2 : List Nat) (w : World) : Prop where
  l : IL B vl L1 w
  r : IP B vr L2.length (fun t => ((L2.getD t 0 : Nat) : Int)) (fun t => X (L2.getD t 0)) w
  nd : (L1 ++ L2).Nodup
  lt : ∀ a ∈ L1 ++ L2, a < nn
  len : L1.length + L2.length = nn
  li : L2.length = i
theorem getD_take {L : List Nat} {n j : Nat} (h : j < n) (hn : n ≤ L.length) : (ints (L.take n))[j]? = some (.int .i64 ((L.getD j 0 : Nat) : Int)) := by
  rw [ints, List.getElem?_map, List.getElem?_take, if_pos h, List.getD_eq_getElem?_getD, List.getElem?_eq_getElem (by omega)]; rfl
theorem getD_drop {L : List Nat} {n j : Nat} (h : n + j < L.length) : (ints (L.drop n))[j]? = some (.int .i64 ((L.getD (n + j) 0 : Nat) : Int)) := by
  rw [ints, List.getElem?_map, List.getElem?_drop, List.getD_eq_getElem?_getD, List.getElem?_eq_getElem h]; rfl
theorem ints_lt {L : List Nat} {j : Nat} {u : Value} (h : (ints L)[j]? = some u) : j < L.length := by
  have := (List.getElem?_eq_some_iff.1 h).1
  rwa [ints_length] at this

theorem Two5.step {B nn j gl cl : Nat} {X : Nat → ByteArray} {vr : Value} {L1 L2 : List Nat} {wr w4 : World} (hT : Two5 B nn j X (.slice (some ⟨gl, 0, none⟩) L1.length cl) vr L1 L2 wr) (hB : Below B w4 wr) (hBs : B ≤ wr.heap.size) (hn17 : nn ≤ 1000) {n0 : Nat} (hn : n0 < L1.length) :
    ∃ (v5 : Value) (w5 : World), wr.cell? ⟨gl, n0, none⟩ = some (.int .i64 ((L1.getD n0 0 : Nat) : Int)) ∧
      (Builtin.append_ #[43, 43] 43 #[vr, .slice (some ⟨wr.heap.size, 0, none⟩) 1 1]).run Try.prog (wr.alloc (.cells #[.int .i64 ((L1.getD n0 0 : Nat) : Int), .string (X (L1.getD n0 0))] 53)).drew = .ok v5 w5 ∧ Below B w4 w5 ∧ w5.cell? ⟨gl, n0, none⟩ = some (.int .i64 ((L1.getD n0 0 : Nat) : Int)) ∧
      ∃ (v6 : Value) (w6 : World), (Builtin.append_ #[41, 41] 41 #[.slice (some ⟨w5.heap.size, 0, none⟩) 0 0, .slice (some ⟨gl, 0, none⟩) n0 cl]).run Try.prog (w5.drew.alloc (.cells #[] 3)) = .ok v6 w6 ∧
        ∀ (ad : Addr) (l c : Nat), l = L1.length - (n0 + 1) → (l ≠ 0 → ad = ⟨gl, n0 + 1, none⟩) → ∃ (v7 : Value) (w7 : World), (Builtin.append_ #[41, 41] 41 #[v6, .slice (some ad) l c]).run Try.prog w6 = .ok v7 w7 ∧
          Two5 B nn (j + 1) X v7 v5 (L1.take n0 ++ L1.drop (n0 + 1)) (L2 ++ [L1.getD n0 0]) w7 ∧ Below B w4 w7 := by
  have hlen := hT.len
  have hli := hT.li
  have cellOf : ∀ w, IL B (.slice (some ⟨gl, 0, none⟩) L1.length cl) L1 w → ∀ t, t < L1.length → w.cell? ⟨gl, t, none⟩ = some (.int .i64 ((L1.getD t 0 : Nat) : Int)) := by
    intro w h
    obtain ⟨g', c', e, _, _, _, hc⟩ := h.cells.resolve_left (fun x => by simp at x)
    simp only [Value.slice.injEq, Option.some.injEq, Addr.mk.injEq, and_true, true_and] at e
    obtain ⟨rfl, rfl⟩ := e
    exact hc
  have hgl := hT.l.lt gl rfl
  obtain ⟨a5, c5, w5, h51, h52', h53⟩ := (show IP B vr L2.length _ _ wr.drew from ⟨hT.r.own⟩).one ((L1.getD n0 0 : Nat) : Int) (X (L1.getD n0 0)) (by omega) hBs
  have al : Below wr.heap.size wr (wr.drew.alloc (.cells #[.int .i64 ((L1.getD n0 0 : Nat) : Int), .string (X (L1.getD n0 0))] 53)) := below_alloc (Below.refl _ _).drew _
  have rA := hT.r.keep al
  have lA := hT.l.keep al
  have l5 := lA.apart h53 (fun b hb => lA.nep rA b hb)
  have sz5 : wr.heap.size < w5.heap.size := by have := h53.size; simp at this; omega
  have B5 : Below B w4 w5 := (hB.trans (al.mono hBs)).grown h53 (by simp; omega) (fun k hk => (rA.lt k hk).1)
  have h52 : IP B (.slice a5 (L2.length + 1) c5) (L2 ++ [L1.getD n0 0]).length (fun t => (((L2 ++ [L1.getD n0 0]).getD t 0 : Nat) : Int)) (fun t => X ((L2 ++ [L1.getD n0 0]).getD t 0)) w5 := by
    rw [show (L2 ++ [L1.getD n0 0]).length = L2.length + 1 by simp]
    refine h52'.congr (fun t ht => ?_)
    by_cases e : t < L2.length
    · rw [if_pos e, if_pos e, getD_left _ e]; exact ⟨rfl, rfl⟩
    · obtain rfl : t = L2.length := by omega
      rw [if_neg e, if_neg e, getD_last]; exact ⟨rfl, rfl⟩
  obtain ⟨v5, hv5⟩ : ∃ v5, v5 = Value.slice a5 (L2.length + 1) c5 := ⟨_, rfl⟩
  rw [← hv5] at h51 h52
  have bl : Below w5.heap.size w5 (w5.drew.alloc (.cells #[] 3)) := ((Below.refl w5.heap.size w5).drew).alloc (Nat.le_refl _) _
  have lW := l5.keep bl
  have rW := h52.keep bl
  have e6 : IL B (.slice (some ⟨w5.heap.size, 0, none⟩) 0 0) [] (w5.drew.alloc (.cells #[] 3)) := IL.empty (w := w5.drew) (show B ≤ w5.heap.size by omega)
  have lt_ : (L1.take n0).length = n0 := by rw [List.length_take]; omega
  have ld_ : (L1.drop (n0 + 1)).length = L1.length - (n0 + 1) := List.length_drop
  have szW : w5.heap.size < (w5.drew.alloc (.cells #[] 3)).heap.size := by simp
  obtain ⟨v6, w6, h61, h62, h63, _, h65⟩ := e6.app (a := ⟨gl, 0, none⟩) (c := cl) (L1.take n0) (fun t u hu => by
    have ht := ints_lt hu
    rw [lt_] at ht
    rw [getD_take ht (by omega)] at hu
    cases hu
    rw [Addr.add_mid, Nat.zero_add]
    exact cellOf _ lW t (by omega)) (by rw [lt_, List.length_nil]; omega) (by omega)
  rw [lt_] at h61
  rw [List.nil_append] at h62
  have l6 := lW.apart h63 (fun b hb => by
    simp only [Value.ownBlock, Option.some.injEq] at hb
    simp only [Value.ownBlock, ne_eq, Option.some.injEq]
    omega)
  have r6 := rW.apart h63 (fun b hb => by
    have := h52.lt b hb
    simp only [Value.ownBlock, ne_eq, Option.some.injEq]
    omega)
  have sz6 := h63.size
  refine ⟨v5, w5, cellOf _ hT.l n0 hn, h51, B5, cellOf _ l5 n0 hn, v6, w6, h61, fun ad l c hl had => ?_⟩
  obtain ⟨v7, w7, h71, h72, h73, _⟩ := h62.app (a := ad) (c := c) (L1.drop (n0 + 1)) (fun t u hu => by
    have ht := ints_lt hu
    rw [ld_] at ht
    rw [getD_drop (by omega)] at hu
    cases hu
    rw [had (by omega), Addr.add_mid]
    exact cellOf _ l6 _ (by omega)) (by rw [lt_, ld_]; omega) (by omega)
  rw [ld_, ← hl] at h71
  have o6 : ∀ b, v6.ownBlock = some b → w5.heap.size ≤ b := by
    intro b hb
    rcases h65 with h | h
    · rw [h] at hb; simp only [Value.ownBlock, Option.some.injEq] at hb; omega
    · rw [h] at hb; simp only [Option.some.injEq] at hb; omega
  have r7 := r6.apart h73 (fun b hb e => by have := h52.lt b hb; have := o6 b e; omega)
  have hget : L1.getD n0 0 = L1[n0] := by rw [List.getD_eq_getElem?_getD, List.getElem?_eq_getElem hn]; rfl
  refine ⟨v7, w7, h71, ⟨h72, r7, ?_, fun a ha => ?_, ?_, ?_⟩, ?_⟩
  · rw [hget]; exact take_out hn hT.nd
  · apply hT.lt
    rw [List.mem_append] at ha ⊢
    rcases ha with ha | ha
    · left
      rcases List.mem_append.1 ha with ha | ha
      · exact List.mem_of_mem_take ha
      · exact List.mem_of_mem_drop ha
    · rcases List.mem_append.1 ha with ha | ha
      · exact .inr ha
      · left
        rw [List.mem_singleton] at ha
        rw [ha, hget]
        exact List.getElem_mem hn
  · simp only [List.length_append, lt_, ld_, List.length_cons, List.length_nil]; omega
  · simp only [List.length_append, List.length_cons, List.length_nil]; omega
  · have BW : Below B w4 (w5.drew.alloc (.cells #[] 3)) := B5.trans (bl.mono (by omega))
    exact h62.below (e6.below BW h63 (by omega)) h73 (by omega)

end Go.Proofs.Ytfjkdmiaagalhaa

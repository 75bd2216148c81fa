/-
  Plain mathematics: the parts of StripeTurned.
-/
import Derived.Test.YtfjkdmiaagalhaaNew2
namespace Go.Proofs.Ytfjkdmiaagalhaa
open Go.RowKit Go.Lib

theorem fu_more {k n : Nat} {I : Nat → Int} (hn : k ≤ n) (hi : ∀ s t, s < n → t < n → I s = I t → s = t) : fu k I n = List.range k := by
  have e := fu_all (k := k) (I := I) k (Nat.le_refl _) (fun s t hs ht => hi s t (by omega) (by omega))
  have := fu_full (k := k) (I := I) (j := k) (by rw [e, List.length_range]) (n - k)
  rw [show k + (n - k) = n by omega] at this
  rw [this, e]
/-- All numbers below i but one. -/
def loL (bad i : Nat) : List Nat := (List.range i).filter (fun j => !(j == bad))
theorem loL_bad (bad : Nat) : loL bad (bad + 1) = loL bad bad := by
  rw [loL, List.range_succ, List.filter_append]
  simp [loL]
theorem loL_next {bad i : Nat} (h : i ≠ bad) : loL bad (i + 1) = loL bad i ++ [i] := by
  rw [loL, List.range_succ, List.filter_append]
  simp [loL, h]
theorem loL_mem {bad i j : Nat} : j ∈ loL bad i ↔ j < i ∧ j ≠ bad := by
  rw [loL, List.mem_filter, List.mem_range]
  simp
theorem loL_nodup (bad i : Nat) : (loL bad i).Nodup := List.Nodup.sublist List.filter_sublist List.nodup_range
theorem loL_len (bad : Nat) : ∀ i, (loL bad i).length = if bad < i then i - 1 else i
  | 0 => rfl
  | i + 1 => by
    have ih := loL_len bad i
    by_cases e : i = bad
    · subst e
      rw [loL_bad, ih, if_neg (by omega), if_pos (by omega), Nat.add_sub_cancel]
    · rw [loL_next e, List.length_append, ih]
      by_cases h : bad < i
      · rw [if_pos h, if_pos (by omega)]; simp; omega
      · rw [if_neg h, if_neg (by omega)]; rfl
/-- The turned one ahead, then others, k at most. -/
def wiL (k bad i : Nat) : List Nat := bad :: (loL bad i).take (k - 1)
theorem wiL_nodup (k bad i : Nat) : (wiL k bad i).Nodup := by
  refine List.nodup_cons.2 ⟨fun h => ?_, List.Nodup.sublist (List.take_sublist _ _) (loL_nodup bad i)⟩
  exact (loL_mem.1 (List.mem_of_mem_take h)).2 rfl
theorem wiL_len {k bad i : Nat} (k1 : 1 ≤ k) (h : k ≤ (loL bad i).length + 1) : (wiL k bad i).length = k := by
  rw [wiL, List.length_cons, List.length_take]
  omega
theorem wiL_mem {k bad i n j : Nat} (hb : bad < n) (hi : i ≤ n) (h : j ∈ wiL k bad i) : j < n := by
  rcases List.mem_cons.1 h with rfl | h
  · exact hb
  · have := (loL_mem.1 (List.mem_of_mem_take h)).1
    omega
/-- One more is taken as long as they are fewer than k. -/
theorem wiL_next {k bad i : Nat} (h : i ≠ bad) (hl : (wiL k bad i).length < k) : wiL k bad (i + 1) = wiL k bad i ++ [i] := by
  rw [wiL, List.length_cons, List.length_take] at hl
  rw [wiL, wiL, loL_next h, List.take_append, List.cons_append, List.take_of_length_le (l := [i]) (by simp; omega)]
theorem wiL_full {k bad i : Nat} (h : i ≠ bad) (hl : ¬ (wiL k bad i).length < k) : wiL k bad (i + 1) = wiL k bad i := by
  rw [wiL, List.length_cons, List.length_take] at hl
  rw [wiL, wiL, loL_next h, List.take_append_of_le_length (by omega)]
end Go.Proofs.Ytfjkdmiaagalhaa

namespace Go.Proofs.Ytfjkdmiaagalhaa
open Go.RowKit Go.Lib

section
variable {B n : Nat} {v : Value} {I : Nat → Int} {X : Nat → ByteArray} {w w' : World}
/-- One part more, and where it lies. -/
theorem IP.one2 (h : IP B v n I X w) (x : Int) (y : ByteArray) (hb : n + 1 ≤ 100000) (hB : B ≤ w.heap.size) :
    ∃ v' w', (Builtin.append_ #[43, 43] 43 #[v, .slice (some ⟨w.heap.size, 0, none⟩) 1 1]).run Try.prog (w.alloc (.cells #[.int .i64 x, .string y] 53)) = .ok v' w' ∧ IP B v' (n + 1) (fun t => if t < n then I t else x) (fun t => if t < n then X t else y) w' ∧ (w.alloc (.cells #[.int .i64 x, .string y] 53)).grownBy w' v.ownBlock ∧ ∀ b, v'.ownBlock = some b → v.ownBlock = some b ∨ w.heap.size ≤ b := by
  have hal : Below w.heap.size w (w.alloc (.cells #[.int .i64 x, .string y] 53)) := below_alloc (Below.refl _ _) _
  have h' := h.keep hal
  obtain ⟨i0, hi, hz0, hz1, hz2⟩ := info_parts Try.infoPart
  obtain ⟨v', w', h1, h2, h3, _, h5⟩ := run_append_own_at (P := Try.prog) _ B 43 43 53 i0 (.agg #[.int .i64 0, .string ⟨#[]⟩]) 2 24 Try.underlying43 hi hz0 hz1 hz2 rfl (by decide) v n (pcells I X n) h'.own ⟨w.heap.size, 0, none⟩ 1 1 [.int .i64 x, .string y] rfl (fun j u hj => by
      rw [Addr.add_mid, Nat.zero_add, cell_of_row _ _ _ _ _ _ (heap_alloc_new w _)]
      simpa using hj) (by simp [Value.oneCell']) (by unfold maxLen; omega) (by omega) (by simp; omega)
  have e : pcells I X n ++ [.int .i64 x, .string y] = pcells (fun t => if t < n then I t else x) (fun t => if t < n then X t else y) (n + 1) := by
    have e1 : pcells I X n = pcells (fun t => if t < n then I t else x) (fun t => if t < n then X t else y) n := pcells_congr fun i hi => ⟨(if_pos hi).symm, (if_pos hi).symm⟩
    have e2 : (if n < n then I n else x) = x := if_neg (by omega)
    have e3 : (if n < n then X n else y) = y := if_neg (by omega)
    rw [pcells, ← e1, e2, e3]
  refine ⟨v', w', h1, ⟨by rw [← e]; exact h2⟩, h3, fun b hb => ?_⟩
  rcases h5 with h5 | h5
  · exact .inl (h5 ▸ hb)
  · rw [h5] at hb
    simp at hb
    exact .inr (by omega)
theorem PP.own {b sb f1 f2 g k m : Nat} (h : PP w b sb f1 f2 g k m) (hI : IP B v n I X w) (hg : w.grownBy w' v.ownBlock) : PP w' b sb f1 f2 g k m := by
  rcases hI.own.2 with ⟨rfl, _⟩ | ⟨g', cap, cur, e, _, hgg, _⟩
  · exact h.below ⟨hg.os, hg.tape, hg.output, hg.size, fun i hi => hg.block i hi (by simp [Value.ownBlock])⟩
  · rw [e] at hg
    exact h.putp hgg hg
theorem SB.own {q N : Nat} {Y : Nat → ByteArray} (h : SB w q N Y) (hI : IP B v n I X w) (hg : w.grownBy w' v.ownBlock) : SB w' q N Y := by
  refine h.of_block (hg.block q h.lt ?_)
  intro e2
  rcases hI.own.2 with ⟨rfl, _⟩ | ⟨g', cap, cur, e, _, hgg, _⟩
  · simp [Value.ownBlock] at e2
  · rw [e] at e2
    simp [Value.ownBlock] at e2
    subst e2
    unfold SB at h
    rw [hgg] at h
    simp at h
end
/-- What StripeTurned keeps. -/
structure TK (w wr : World) (b sb f1 f2 g k m q B : Nat) (vw vo : Value) (LW LO : List Nat) (Y s : ByteArray) : Prop where
  pp : PP wr b sb f1 f2 g k m
  sb : SB wr q (k + m) (shd k s)
  wi : IP B vw LW.length (fun t => ((LW.getD t 0 : Nat) : Int)) (fun t => if t = 0 then Y else shd k s (LW.getD t 0)) wr
  wo : IP B vo LO.length (fun t => ((LO.getD t 0 : Nat) : Int)) (fun t => shd k s (LO.getD t 0)) wr
  ap : ∀ b, vw.ownBlock = some b → vo.ownBlock ≠ some b
  be : Below w.heap.size w wr
section
variable {w wr : World} {b sb f1 f2 g k m q B : Nat} {vw vo : Value} {LW LO : List Nat} {Y s : ByteArray}
theorem TK.addO (h : TK w wr b sb f1 f2 g k m q B vw vo LW LO Y s) (hB : w.heap.size ≤ B) (hBr : B ≤ wr.heap.size) (hl : LO.length ≤ 1000) (i : Nat) :
    ∃ v' w', (Builtin.append_ #[43, 43] 43 #[vo, .slice (some ⟨wr.heap.size, 0, none⟩) 1 1]).run Try.prog (wr.alloc (.cells #[.int .i64 (i : Int), .string (shd k s i)] 53)) = .ok v' w' ∧ TK w w' b sb f1 f2 g k m q B vw v' LW (LO ++ [i]) Y s ∧ B ≤ w'.heap.size := by
  obtain ⟨v', w', h1, h2, h3, h4⟩ := h.wo.one2 (i : Int) (shd k s i) (by omega) hBr
  have hal : Below wr.heap.size wr (wr.alloc (.cells #[.int .i64 (i : Int), .string (shd k s i)] 53)) := below_alloc (Below.refl _ _) _
  have oA := h.wo.keep hal
  have wA := h.wi.keep hal
  refine ⟨v', w', h1, ⟨(h.pp.below hal).own oA h3, (h.sb.below hal (Nat.le_refl _)).own oA h3, wA.apart h3 (fun b hb => h.ap b hb), ?_, fun b hb e => ?_, (below_step h.be hal).grown h3 (Nat.le_trans h.be.size hal.size) (fun c hc => Nat.le_trans hB (oA.lt c hc).1)⟩, Nat.le_trans hBr (Nat.le_trans hal.size h3.size)⟩
  · rw [show (LO ++ [i]).length = LO.length + 1 by simp]
    refine h2.congr (fun t ht => ?_)
    by_cases e : t < LO.length
    · rw [if_pos e, if_pos e, getD_left _ e]; exact ⟨rfl, rfl⟩
    · obtain rfl : t = LO.length := by omega
      rw [if_neg e, if_neg e, getD_last]; exact ⟨rfl, rfl⟩
  · rcases h4 b e with h5 | h5
    · exact h.ap b hb h5
    · have := (h.wi.lt b hb).2
      omega
theorem TK.addW (h : TK w wr b sb f1 f2 g k m q B vw vo LW LO Y s) (hB : w.heap.size ≤ B) (hBr : B ≤ wr.heap.size) (hl : LW.length ≤ 1000) (h0 : LW.length ≠ 0) (i : Nat) :
    ∃ v' w', (Builtin.append_ #[43, 43] 43 #[vw, .slice (some ⟨wr.heap.size, 0, none⟩) 1 1]).run Try.prog (wr.alloc (.cells #[.int .i64 (i : Int), .string (shd k s i)] 53)) = .ok v' w' ∧ TK w w' b sb f1 f2 g k m q B v' vo (LW ++ [i]) LO Y s ∧ B ≤ w'.heap.size := by
  obtain ⟨v', w', h1, h2, h3, h4⟩ := h.wi.one2 (i : Int) (shd k s i) (by omega) hBr
  have hal : Below wr.heap.size wr (wr.alloc (.cells #[.int .i64 (i : Int), .string (shd k s i)] 53)) := below_alloc (Below.refl _ _) _
  have oA := h.wo.keep hal
  have wA := h.wi.keep hal
  refine ⟨v', w', h1, ⟨(h.pp.below hal).own wA h3, (h.sb.below hal (Nat.le_refl _)).own wA h3, ?_, oA.apart h3 (fun b hb e => h.ap b e hb), fun b hb e => ?_, (below_step h.be hal).grown h3 (Nat.le_trans h.be.size hal.size) (fun c hc => Nat.le_trans hB (wA.lt c hc).1)⟩, Nat.le_trans hBr (Nat.le_trans hal.size h3.size)⟩
  · rw [show (LW ++ [i]).length = LW.length + 1 by simp]
    refine h2.congr (fun t ht => ?_)
    by_cases e : t < LW.length
    · rw [if_pos e, if_pos e, getD_left _ e]; exact ⟨rfl, rfl⟩
    · obtain rfl : t = LW.length := by omega
      rw [if_neg e, if_neg e, getD_last, if_neg h0]; exact ⟨rfl, rfl⟩
  · rcases h4 b hb with h5 | h5
    · exact h.ap b h5 e
    · have := (h.wo.lt b e).2
      omega
end
end Go.Proofs.Ytfjkdmiaagalhaa

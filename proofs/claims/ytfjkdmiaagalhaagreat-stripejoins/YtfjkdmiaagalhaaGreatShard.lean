/-
  A mixture with a row of a matrix; a shard; Split.
-/
import Derived.Test.YtfjkdmiaagalhaaGreatCut
namespace Go.Proofs.YtfjkdmiaagalhaaGreat
open Go.RowKit Go.Lib

theorem Fd.TX.alloc {w : World} {n : Nat} {v : Value} {X : Nat → ByteArray} (h : Fd.TX w v n X) (o : Obj) : Fd.TX (w.alloc o) v n X := h.below (below_alloc (Below.refl _ _) o)
/-- A part of a block of elements as a list to be read. -/
theorem KB.part {w : World} {g N : Nat} {G : Nat → K} (h : KB w g N G) (x k c : Nat) (hx : x + k ≤ N) : Fd.NX w (.slice (some ⟨g, x, none⟩) k c) k (fun t => (((G (x + t)).v : Nat) : Int)) :=
  ⟨_, c, rfl, .inr ⟨g, x, rfl, h.lt, fun i hi => h.cell (x + i) (by omega)⟩⟩

theorem Bx.gof {w w' : World} {f b : Nat} {r c : Int} {v : Value} (h : Bx w b r c v) (hF : F w f) (hg : w.grownBy w' (some f)) : Bx w' b r c v := by
  refine h.of_block (hg.block b h.lt (by
    intro e
    simp only [Option.some.injEq] at e
    subst e
    unfold Bx at h
    rcases hF with x | ⟨_, _, x, _⟩ <;> (unfold FB at x; rw [h] at x; simp at x)))
theorem F.other {w w' : World} {b f : Nat} (h : F w b) (hF : F w f) (hg : w.grownBy w' (some f)) (ne : b ≠ f) : F w' b := by
  have hff : ∃ cs, w.heap[f]? = some (.cells cs 92 (0, 0)) := by
    rcases hF with x | ⟨_, _, x, _⟩ <;> exact ⟨_, x⟩
  obtain ⟨cs, hf⟩ := hff
  rcases h with h | ⟨t, h3, h4, h5⟩
  · exact .inl (h.of_block (hg.block b h.lt (by simpa using ne)))
  · refine .inr ⟨t, h3, h4.of_block (hg.block b h4.lt (by simpa using ne)), h5.of_block (hg.block t h5.lt (fun e => ?_))⟩
    simp only [Option.some.injEq] at e
    subst e
    unfold TB at h5
    rw [hf] at h5
    simp at h5
theorem gb_undrew {w w' : World} {row : Option Nat} (h : w.drew.grownBy w' row) : w.grownBy w' row := ⟨h.os, h.tape, h.output, h.size, h.block⟩
/-- A plan whose field has gone on. -/
theorem PP.go {w w' : World} {b sb f1 f2 g k m : Nat} (h : PP w b sb f1 f2 g k m) (hF : F w' f2) (hg : w.grownBy w' (some f2)) : PP w' b sb f1 f2 g k m := by
  obtain ⟨n1, n2, n3⟩ := h.nef
  refine ⟨h.pl.of_block (hg.block b h.pl.lt (by simpa using n1)), ⟨h.sp.b.of_block (hg.block sb h.sp.b.lt (by simpa using n3)), ?_, h.sp.ne⟩, hF, h.kb.of_block (hg.block g h.kb.lt (by simpa using n2)), h.ne⟩
  exact h.sp.fl.other h.fl hg h.ne

set_option maxRecDepth 100000 in
set_option maxHeartbeats 1600000 in
theorem pmix_any {w : World} {b sb f1 f2 g k m : Nat} (h : PP w b sb f1 f2 g k m) (k1 : 1 ≤ k) (k2 : k ≤ 255) {vl : Value} {X : Nat → ByteArray} (hl : Fd.TX w vl k X) (hx0 : 0 < k → (X 0).size ≤ 140737488355328)
    {ga N cap i : Nat} {G : Nat → K} {rr cc : Int} (hG : KB w ga N G) (hi : i ≤ 255) (hrow : (i + 1) * k ≤ N) (hN : N ≤ cap) (hcap : cap ≤ 1000000) :
    Calls Tryz.prog 50 #[.pointer (some ⟨b, 0, none⟩), vl, .agg #[.int .i64 rr, .int .i64 cc, .slice (some ⟨ga, 0, none⟩) N cap], .int .i64 i] w fun e w' => e = .returned (.string (Fd.mixS k k X (fun t => (((G (i * k + t)).v : Nat) : Int)))) ∧ F w' f2 ∧ w.grownBy w' (some f2) := by
  obtain ⟨al, cl, rfl, _⟩ := id hl
  obtain ⟨x, hx⟩ : ∃ x, x = i * k := ⟨_, rfl⟩
  have hx2 : (i + 1) * k = x + k := by rw [Nat.add_mul, Nat.one_mul, hx]
  have hm : (i : Int) * (k : Int) = (x : Int) := by rw [← Int.natCast_mul, hx]
  have hm2 : ((i : Int) + 1) * (k : Int) = (x : Int) + (k : Int) := by rw [Int.add_mul, Int.one_mul, hm]
  rw [hx2] at hrow
  rw [← hx]
  clear hx hx2
  obtain ⟨W, hW⟩ : ∃ W, W = w.alloc (.cells #[.int .i64 rr, .int .i64 cc, .slice (some ⟨ga, 0, none⟩) N cap] 50) := ⟨_, rfl⟩
  have hbW : Below w.heap.size w W := by rw [hW]; exact below_alloc (Below.refl _ _) _
  have X1 : Bx W w.heap.size rr cc (.slice (some ⟨ga, 0, none⟩) N cap) := by rw [hW]; exact Bx.new _ _ _ _
  have hP := h.below hbW
  have s0 := hP.pl.cell0
  have s6 := hP.pl.cell6
  have s2 := X1.cell2
  have HF := hide hP.fl
  have HL := hide (hl.below hbW)
  have HG := hide ((hG.below hbW (Nat.le_refl _)).part x k (cap - x) hrow)
  have HB := hide hbW
  have HW := hide hW
  have KS : Hid (∀ w', W.grownBy w' (some f2) → w'.cell? ⟨b, 0, none⟩ = some (.int .i64 k) ∧ w'.cell? ⟨b, 6, none⟩ = some (.pointer (some ⟨f2, 0, none⟩)) ∧ w'.cell? ⟨w.heap.size, 2, none⟩ = some (.slice (some ⟨ga, 0, none⟩) N cap)) := fun w' hg => by
    have x := hP.pl.of_block (hg.block b hP.pl.lt (by simpa using hP.nef.1))
    exact ⟨x.cell0, x.cell6, (X1.gof hP.fl hg).cell2⟩
  clear h hl hG hW hbW X1 hP
  have D0 : Hid (W.drew.cell? ⟨b, 0, none⟩ = some (.int .i64 k) ∧ W.drew.cell? ⟨b, 6, none⟩ = some (.pointer (some ⟨f2, 0, none⟩)) ∧ W.drew.cell? ⟨w.heap.size, 2, none⟩ = some (.slice (some ⟨ga, 0, none⟩) N cap)) := ⟨s0, s6, s2⟩
  obtain ⟨y, hy⟩ : ∃ y, y = x + k := ⟨_, rfl⟩
  have b0 : (0 : Int) ≤ (x : Int) := by omega
  have b1 : (x : Int) ≤ (y : Int) := by omega
  have b2 : (y : Int) ≤ (cap : Int) := by omega
  have b3 : ¬ (cap = x) := by omega
  have b4 : y - x = k := by omega
  have hsl : ∀ w : World, (Instr.slice 48 (.slice (some ⟨ga, 0, none⟩) N cap) (some (.int .i64 (x : Int))) (some (.int .i64 (y : Int))) none).run Tryz.prog w = .ok (.slice (some ⟨ga, x, none⟩) k (cap - x)) w := fun w => by
    rw [run_slice_lh (P := Tryz.prog) (w := w) 48 _ _ _ Tryz.underlying48 .i64 .i64 (x : Int) (y : Int) b0 b1 b2]
    simp [go_sem, sliced, b3, b4]
  have e0 : IntKind.i64.wrap ((i : Int) + 1) = (i : Int) + 1 := wraps_i64 _ (by omega) (by omega)
  have e1 : IntKind.i64.wrap ((i : Int) * (k : Int)) = (x : Int) := by rw [hm]; exact wraps_i64 _ (by omega) (by omega)
  have e2 : IntKind.i64.wrap (((i : Int) + 1) * (k : Int)) = (y : Int) := by rw [hm2, hy, Int.natCast_add]; exact wraps_i64 _ (by omega) (by omega)
  clear hy
  clear hm hm2
  go_enter Tryz.func50, Tryz.ntmps50
  go_upto_region 1 with fail
  rw [← HW.out]
  go_region_held_law (fun wx => wx.cell? ⟨b, 0, none⟩ = some (.int .i64 k) ∧ wx.cell? ⟨b, 6, none⟩ = some (.pointer (some ⟨f2, 0, none⟩)) ∧ wx.cell? ⟨w.heap.size, 2, none⟩ = some (.slice (some ⟨ga, 0, none⟩) N cap))
    (first | with_reducible exact D0.out | with_reducible exact KS.out _ (by assumption))
    (first | (go_at_call 63; refine (Fd.mix_any (HF.out.drew) (HL.out.below (Below.refl _ _).drew) (HG.out.below (Below.refl _ _).drew) (by omega) (by omega) hx0).mono ?_; rintro e wa ⟨rfl, hFa, hga⟩; have hgb := gb_undrew hga))
  all_goals
    go_wp2
    go_ret
    exact ⟨rfl, hFa, gb_trans (gb_below HB.out _) hgb⟩
end Go.Proofs.YtfjkdmiaagalhaaGreat

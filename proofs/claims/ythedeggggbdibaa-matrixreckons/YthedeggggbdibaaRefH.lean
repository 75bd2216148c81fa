/-
  The contract of the document's own copied.
-/
import Derived.Test.YthedeggggbdibaaRefE
import Derived.Test.YthedeggggbdibaaRanksMath
import Derived.Test.YthedeggggbdibaaBeside
namespace Go.Proofs.Ythedeggggbdibaa
open Go.RowKit Go.Lib

theorem Br.mc {w : World} {b : Nat} {r c : Int} {v : Value} (h : Br w b r c v) : w.cell? ⟨b, 0, none⟩ = some (.int .i64 r) ∧ w.cell? ⟨b, 1, none⟩ = some (.int .i64 c) ∧ w.cell? ⟨b, 2, none⟩ = some v := ⟨h.cell0, h.cell1, h.cell2⟩
theorem kcells_vals (N : Nat) (A : Nat → K) : ints (vals N A) = kcells N A := by
  rw [ints, vals, kcells, List.map_map]; rfl
/-- A list of one's own is a block of elements. -/
theorem IL.kb {B N : Nat} {A : Nat → K} {w : World} {ao : Option Addr} {cap : Nat} (h : IL B (.slice ao N cap) (vals N A) w) (h0 : N ≠ 0) : ∃ g, ao = some ⟨g, 0, none⟩ ∧ KB w g N A ∧ N ≤ cap ∧ B ≤ g := by
  obtain ⟨h1, ⟨e, h2⟩ | ⟨g, cap', cur, e, hB, hg, hn, _, hs, ht⟩⟩ := h.own
  · rw [vals_length] at h2; exact absurd h2 h0
  · rw [vals_length] at e hn ht
    simp only [Value.slice.injEq, true_and] at e
    obtain ⟨rfl, rfl⟩ := e
    refine ⟨g, rfl, ⟨cur.toList.drop N, ?_⟩, hn, hB⟩
    rw [hg, ← kcells_vals, ← ht, Nat.mul_one, List.take_append_drop]

set_option maxRecDepth 100000 in
set_option maxHeartbeats 1600000 in
theorem copied_any {w : World} {f r c N : Nat} {va : Value} {A : Nat → K} (hA : NX w f va N (fun k => (((A k).v : Nat) : Int))) (h0 : N ≠ 0) (hN : N ≤ 1000) :
    Calls Try.prog 42 #[.agg #[.int .i64 r, .int .i64 c, va]] w fun e w' =>
      ∃ g cp, e = .returned (.agg #[.int .i64 r, .int .i64 c, .slice (some ⟨g, 0, none⟩) N cp]) ∧ KB w' g N A ∧ N ≤ cp ∧ w.heap.size ≤ g ∧ Below w.heap.size w w' := by
  obtain ⟨ba, oa, ca, rfl, ha3, ha4, ha5⟩ := hA.at h0
  obtain ⟨oA, hoA⟩ : ∃ o, o = Obj.cells #[.int .i64 r, .int .i64 c, .slice (some ⟨ba, oa, none⟩) N ca] 29 := ⟨_, rfl⟩
  obtain ⟨oR, hoR⟩ : ∃ o, o = Obj.cells #[.int .i64 0, .int .i64 0, .slice none 0 0] 29 := ⟨_, rfl⟩
  have L2 := below_alloc (below_alloc (Below.refl w.heap.size w) oA) oR
  have A2 := (hA.alloc oA).alloc oR
  have X1 := (show Br (w.alloc oA) w.heap.size r c (.slice (some ⟨ba, oa, none⟩) N ca) by rw [hoA]; exact Br.new _ _ _ _).alloc oR
  have X2 := show Br ((w.alloc oA).alloc oR) (w.alloc oA).heap.size 0 0 (.slice none 0 0) by rw [hoR]; exact Br.new _ _ _ _
  rw [show (w.alloc oA).heap.size = w.heap.size + 1 by simp] at X2
  have hsz : ((w.alloc oA).alloc oR).heap.size = w.heap.size + 2 := by simp
  obtain ⟨ao, cap, w', hr, hI, hb⟩ := IL.copy (B := w.heap.size + 2) (by omega) A2 h0 hN 1
  obtain ⟨g, rfl, hK, hc, hg⟩ := hI.kb h0
  have X1' := X1.below hb (Nat.le_refl _)
  have X2' := X2.below hb (Nat.le_refl _)
  have L' := below_step L2 hb
  have FIN : Hid (KB w' g N A ∧ N ≤ cap ∧ w.heap.size + 2 ≤ g ∧ Below w.heap.size w w' ∧ Br w' (w.heap.size + 1) 0 0 (.slice none 0 0)) := ⟨hK, hc, hg, L', X2'⟩
  obtain ⟨W, hW⟩ : ∃ W, W = (w.alloc oA).alloc oR := ⟨_, rfl⟩
  rw [hsz] at hr
  rw [← hW] at X1 hr hb hsz
  have p := X1
  have k := X1.alloc (.cells #[] 3)
  have p0 := hide X1.mc
  have k0 := hide k.mc
  have u0 := hide X1'.mc
  obtain ⟨hX5, g5⟩ := X2'.put (r : Int) (c : Int) (.slice (some ⟨g, 0, none⟩) N cap)
  have z0 := hide (X1'.of_block (g5.block _ X1'.lt (by simp))).mc
  clear hX5 g5
  have q0 := X1.cell0
  have q1 := X1.cell1
  have q2 := X1.cell2
  have v0 := X2'.cell0
  have v1 := X2'.cell1
  have v2 := X2'.cell2
  have f2 := X2'.free
  have HR := hide hr
  have HW : Hid (W = _) := hW
  rw [hoA, hoR] at HW
  clear hA L2 A2 X1 X2 hI hb hK X1' X2' L' hoA hoR hr hW p k
  go_enter Try.func42, Try.ntmps42
  go_wp2_with fail
  rw [← HW.out]
  clear HW
  go_region_held_law (fun w' => w'.cell? ⟨w.heap.size, 0, none⟩ = some (.int .i64 r) ∧ w'.cell? ⟨w.heap.size, 1, none⟩ = some (.int .i64 c) ∧ w'.cell? ⟨w.heap.size, 2, none⟩ = some (.slice (some ⟨ba, oa, none⟩) N ca)) (first | assumption | exact ⟨by assumption, by assumption, by assumption⟩ | exact p0.out | exact k0.out | exact u0.out | exact z0.out)
    (refine step_append_run rfl _ _ 22 22 rfl _ _ rfl rfl _ _ HR.out ?_)
  all_goals
    go_wp2
    obtain ⟨hK, hc, hg, L', X2'⟩ := FIN.out
    obtain ⟨hX5, g5⟩ := X2'.put (r : Int) (c : Int) (.slice (some ⟨g, 0, none⟩) N cap)
    refine bodyPost_ret (v := .agg #[.int .i64 r, .int .i64 c, .slice (some ⟨g, 0, none⟩) N cap]) (by simp [results, Try.results42, go_sem, hX5.cell0, hX5.cell1, hX5.cell2]) rfl ⟨g, cap, rfl, hK.of_block (g5.block g hK.lt (by simp; omega)), hc, by omega, below_gb L' g5 (by omega) L'.size⟩
end Go.Proofs.Ythedeggggbdibaa

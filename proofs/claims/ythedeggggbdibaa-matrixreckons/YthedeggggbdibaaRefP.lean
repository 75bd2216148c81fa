/-
  A list of any numbers copied; the statement's own of.
-/
import Derived.Test.YthedeggggbdibaaRefO
import Derived.Test.YthedeggggbdibaaApp
namespace Go.Proofs.Ythedeggggbdibaa
open Go.RowKit Go.Lib

def zcells (n : Nat) (Z : Nat → Int) : List Value := (List.range n).map fun k => Value.int .i64 (Z k)
theorem zcells_length (n : Nat) (Z : Nat → Int) : (zcells n Z).length = n := by simp [zcells]
theorem zcells_get {n i : Nat} (Z : Nat → Int) (h : i < n) : (zcells n Z)[i]? = some (.int .i64 (Z i)) := by
  rw [zcells, List.getElem?_map, List.getElem?_range h]; rfl
theorem zcells_one {n : Nat} {Z : Nat → Int} : ∀ u ∈ zcells n Z, u.oneCell' = true := by
  intro u hu
  obtain ⟨_, _, rfl⟩ := List.mem_map.1 hu
  rfl

theorem NX.put {w w' : World} {f n b : Nat} {ao : Option Addr} {cap : Nat} {Z : Nat → Int} (h : NX w f (.slice ao n cap) n Z) (hl : n = 0 ∨ ∃ g, ao = some ⟨g, 0, none⟩ ∧ g ≠ b) (hg : w.grownBy w' (some b)) : NX w' f (.slice ao n cap) n Z := by
  obtain ⟨a, c, e, hc, h⟩ := h
  refine ⟨a, c, e, hc, ?_⟩
  rcases h with h | ⟨bl, off, rfl, hbl, hf, hcc⟩
  · exact .inl h
  · rcases hl with h | ⟨g, e2, hne⟩
    · exact .inl h
    · simp only [Value.slice.injEq, true_and] at e
      rw [e2] at e
      simp only [Option.some.injEq, Addr.mk.injEq, and_true] at e
      obtain ⟨⟨rfl, rfl⟩, rfl⟩ := e
      exact .inr ⟨g, 0, rfl, Nat.lt_of_lt_of_le hbl hg.size, hf, fun j hj => (cell_congr (hg.block g hbl (by simpa using hne))).trans (hcc j hj)⟩
/-- Any list appended to an empty one. -/
theorem copy_run {w : World} {f n : Nat} {va : Value} {Z : Nat → Int} (h : NX w f va n Z) (hf : f < w.heap.size) (hn : n * 8 ≤ 140737488355328) (e0 : Nat) :
    ∃ ao cap w', (Builtin.append_ #[22, 22] 22 #[.slice (some ⟨e0, 0, none⟩) 0 0, va]).run Try.prog w = .ok (.slice ao n cap) w' ∧ NX w' f (.slice ao n cap) n Z ∧ Below w.heap.size w w' ∧ (n = 0 ∨ ao = some ⟨w.heap.size, 0, none⟩) ∧ (n = 0 ∨ ∃ cs, w'.heap[w.heap.size]? = some (.cells cs 3 (0, 0))) := by
  obtain ⟨i0, hi, hz0, hz1, hz2⟩ := info_parts Try.info3
  by_cases h0 : n = 0
  · subst h0
    obtain ⟨a, c, rfl⟩ := h.shp
    have hs : Src Try.prog i0.size 22 (.slice a 0 c) 0 [] w := by
      cases a with
      | none => exact Src.ofNil w Try.underlying22 c
      | some a => exact Src.ofSlice w Try.underlying22 a 0 c [] (by simp) (fun j v h => by simp at h) (fun _ h => by cases h)
    have hr := run_append_room_src w 22 22 22 3 i0 Try.underlying22 hi e0 0 0 0 _ 0 [] hs (by omega) (fun j hj => by simp at hj) (fun j hj => by simp at hj)
    refine ⟨_, _, _, hr, ⟨_, _, rfl, Nat.le_refl _, .inl rfl⟩, ?_⟩
    exact ⟨Below.refl _ _, .inl rfl, .inl rfl⟩
  · obtain ⟨b, o, cc, rfl, _, _, _⟩ := h.at h0
    have hs : Src Try.prog i0.size 22 (.slice (some ⟨b, o, none⟩) n cc) n (zcells n Z) w := Src.ofSlice w Try.underlying22 ⟨b, o, none⟩ n cc (zcells n Z) (by rw [zcells_length, hz1, Nat.mul_one]) (fun j v hj => by
      have hj' : j < n := by have := (List.getElem?_eq_some_iff.1 hj).1; rwa [zcells_length] at this
      rw [zcells_get _ hj'] at hj
      cases hj
      rw [Addr.add_mid]
      exact h.cell_at j hj') zcells_one
    have hr := run_append_grow_src w 22 22 22 3 i0 (.int .i64 0) Try.underlying22 hi hz0 (some ⟨e0, 0, none⟩) 0 0 [] (run_firstCells_some w.drew i0.size 0 ⟨e0, 0, none⟩ 0 0 [] (by simp) (fun j v h => by simp at h)) _ n _ hs (by omega) (by omega) (by rw [Nat.zero_add, nextslicecap_zero (by omega), hz2]; omega)
    rw [Nat.zero_add] at hr
    have hh := heap_alloc_new w.drew (.cells (([] ++ zcells n Z).toArray ++ Builtin.zeroCells (Value.int IntKind.i64 0).cells (grownCap w n 0 3 - n)) 3)
    rw [show w.drew.heap.size = w.heap.size from rfl] at hh
    refine ⟨_, _, _, hr, ⟨_, _, rfl, grownCap_ge w n 0 3, .inr ⟨w.heap.size, 0, rfl, by simp, by omega, fun j hj => ?_⟩⟩, ((Below.refl _ _).drew).alloc (Nat.le_refl _) _, .inr rfl, .inr ⟨_, hh⟩⟩
    rw [cell_of_row _ _ _ _ _ _ hh, Nat.zero_add]
    simp only [List.nil_append]
    rw [Array.getElem?_append_left (by simp [zcells_length]; exact hj), List.getElem?_toArray]
    exact zcells_get Z hj

set_option maxRecDepth 100000 in
set_option maxHeartbeats 1600000 in
theorem of_any {w : World} {f n : Nat} {r c : Int} {va : Value} {Z : Nat → Int} (hA : NX w f va n Z) (hf : f < w.heap.size) (hn : n * 8 ≤ 140737488355328) :
    Calls Try.prog 11 #[.agg #[.int .i64 r, .int .i64 c, va]] w fun e w' =>
      ∃ ao cap, e = .returned (.agg #[.int .i64 r, .int .i64 c, .slice ao n cap]) ∧ NX w' f (.slice ao n cap) n Z ∧ Below w.heap.size w w' ∧ (n = 0 ∨ ∃ g cs, ao = some ⟨g, 0, none⟩ ∧ w'.heap[g]? = some (.cells cs 3 (0, 0))) := by
  obtain ⟨aa, ca, rfl⟩ := hA.shp
  obtain ⟨oA, hoA⟩ : ∃ o, o = Obj.cells #[.int .i64 r, .int .i64 c, .slice aa n ca] 29 := ⟨_, rfl⟩
  obtain ⟨oR, hoR⟩ : ∃ o, o = Obj.cells #[.int .i64 0, .int .i64 0, .slice none 0 0] 24 := ⟨_, rfl⟩
  have L2 := below_alloc (below_alloc (Below.refl w.heap.size w) oA) oR
  have A2 := (hA.alloc oA).alloc oR
  have X1 := (show Br (w.alloc oA) w.heap.size r c (.slice aa n ca) by rw [hoA]; exact Br.new _ _ _ _).alloc oR
  have X2 := show Bx ((w.alloc oA).alloc oR) (w.alloc oA).heap.size 0 0 (.slice none 0 0) by rw [hoR]; exact Bx.new _ _ _ _
  rw [show (w.alloc oA).heap.size = w.heap.size + 1 by simp] at X2
  have hsz : ((w.alloc oA).alloc oR).heap.size = w.heap.size + 2 := by simp
  have D : Below ((w.alloc oA).alloc oR).heap.size ((w.alloc oA).alloc oR) ((((w.alloc oA).alloc oR).drewN 1).alloc (.cells #[] 3)) := (below_drew (Below.refl ((w.alloc oA).alloc oR).heap.size ((w.alloc oA).alloc oR)) 1).alloc (Nat.le_refl _) _
  obtain ⟨ao, cap, w', hr, hI, hb1, hloc, htyp⟩ := copy_run (A2.below D) (by have := D.size; omega) hn (w.heap.size + 2)
  have hb := below_step D hb1
  have X1' := X1.below hb (Nat.le_refl _)
  have X2' := X2.below hb (Nat.le_refl _)
  have L' := below_step L2 hb
  have hloc' : n = 0 ∨ ∃ g, ao = some ⟨g, 0, none⟩ ∧ g ≠ w.heap.size + 1 := by
    rcases hloc with h | h
    · exact .inl h
    · exact .inr ⟨_, h, by have := D.size; omega⟩
  have FIN : Hid (NX w' f (.slice ao n cap) n Z ∧ Below w.heap.size w w' ∧ Bx w' (w.heap.size + 1) 0 0 (.slice none 0 0)) := ⟨hI, L', X2'⟩
  have HLOC := hide hloc'
  have hin : n = 0 ∨ ∃ g cs, ao = some ⟨g, 0, none⟩ ∧ w'.heap[g]? = some (.cells cs 3 (0, 0)) ∧ g < w'.heap.size ∧ g ≠ w.heap.size + 1 := by
    rcases hloc with h | h
    · exact .inl h
    · rcases htyp with h2 | ⟨cs, h2⟩
      · exact .inl h2
      · exact .inr ⟨_, cs, h, h2, lt_of_block h2, by have := D.size; omega⟩
  have HIN := hide hin
  obtain ⟨W, hW⟩ : ∃ W, W = (w.alloc oA).alloc oR := ⟨_, rfl⟩
  rw [← hW] at X1 hr hb hsz
  have k := X1.alloc (.cells #[] 3)
  have p0 := hide X1.mc
  have k0 := hide k.mc
  have u0 := hide X1'.mc
  obtain ⟨hX5, g5⟩ := X2'.put (r : Int) (c : Int) (.slice ao n cap)
  have z0 := hide (X1'.of_block (g5.block _ X1'.lt (by simp))).mc
  clear hX5 g5
  have q0 := X1.cell0
  have q1 := X1.cell1
  have q2 := X1.cell2
  have v0 := X2'.cell0
  have v1 := X2'.cell1
  have v2 := X2'.cell2
  have f2 := X2'.free
  have HR := hide hr
  have HW : Hid (W = _) := hW
  rw [hoA, hoR] at HW
  clear hA L2 A2 X1 X2 hI hb hb1 X1' X2' L' hoA hoR hr hW k D hloc hloc' hin htyp
  go_enter Try.func11, Try.ntmps11
  go_wp2_with fail
  rw [← HW.out]
  clear HW
  go_region_held_law (fun w' => w'.cell? ⟨w.heap.size, 0, none⟩ = some (.int .i64 r) ∧ w'.cell? ⟨w.heap.size, 1, none⟩ = some (.int .i64 c) ∧ w'.cell? ⟨w.heap.size, 2, none⟩ = some (.slice aa n ca)) (first | assumption | exact ⟨by assumption, by assumption, by assumption⟩ | exact p0.out | exact k0.out | exact u0.out | exact z0.out)
    (refine step_append_run rfl _ _ 22 22 rfl _ _ rfl rfl _ _ HR.out ?_)
  all_goals
    go_wp2
    obtain ⟨hI, L', X2'⟩ := FIN.out
    obtain ⟨hX5, g5⟩ := X2'.put (r : Int) (c : Int) (.slice ao n cap)
    refine bodyPost_ret (v := .agg #[.int .i64 r, .int .i64 c, .slice ao n cap]) (by simp [results, Try.results11, go_sem, hX5.cell0, hX5.cell1, hX5.cell2]) rfl ⟨_, _, rfl, hI.put HLOC.out g5, below_gb L' g5 (by omega) L'.size, ?_⟩
    rcases HIN.out with h | ⟨g, cs, e1, e2, e3, e4⟩
    · exact .inl h
    · exact .inr ⟨g, cs, e1, (g5.block g e3 (by simpa using e4)).trans e2⟩
end Go.Proofs.Ythedeggggbdibaa

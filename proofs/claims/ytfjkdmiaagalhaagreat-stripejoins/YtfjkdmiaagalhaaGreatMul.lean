/-
  The contracts of One and Mul.
-/
import Derived.Test.YtfjkdmiaagalhaaGreatAdd
import Derived.Test.YtfjkdmiaagalhaaGreatFlat
namespace Go.Proofs.YtfjkdmiaagalhaaGreat
open Go.RowKit Go.Lib

/-- A matrix' three parts in a block of their own. -/
def Bx (w : World) (b : Nat) (r c : Int) (v : Value) : Prop := w.heap[b]? = some (.cells #[.int .i64 r, .int .i64 c, v] 50 (0, 0))
section
variable {w w' : World} {b : Nat} {r c : Int} {v : Value}
theorem Bx.lt (h : Bx w b r c v) : b < w.heap.size := lt_of_block h
theorem Bx.cell0 (h : Bx w b r c v) : w.cell? ⟨b, 0, none⟩ = some (.int .i64 r) := by rw [cell_of_row w b 0 _ _ _ h]; rfl
theorem Bx.cell1 (h : Bx w b r c v) : w.cell? ⟨b, 1, none⟩ = some (.int .i64 c) := by rw [cell_of_row w b 1 _ _ _ h]; rfl
theorem Bx.cell2 (h : Bx w b r c v) : w.cell? ⟨b, 2, none⟩ = some v := by rw [cell_of_row w b 2 _ _ _ h]; rfl
theorem Bx.free (h : Bx w b r c v) (j : Nat) : w.frozen? ⟨b, j, none⟩ = false := frozen_of_row w b j _ _ h
theorem Bx.of_block (h : Bx w b r c v) (hb : w'.heap[b]? = w.heap[b]?) : Bx w' b r c v := hb.trans h
theorem Bx.two {f g : Nat} (h : Bx w b r c v) (ht : Two f g w w') (h1 : b ≠ f) (h2 : b ≠ g) : Bx w' b r c v := h.of_block (ht.block b h.lt h1 h2)
theorem Bx.below {B : Nat} (h : Bx w b r c v) (ht : Below B w w') (hB : w.heap.size ≤ B) : Bx w' b r c v := h.of_block (ht.block b (Nat.lt_of_lt_of_le h.lt hB))
theorem Bx.ne {g n : Nat} {G : Nat → K} (h : Bx w b r c v) (hG : KB w g n G) : b ≠ g := by
  intro e
  subst e
  obtain ⟨Z, hG⟩ := hG
  unfold Bx at h
  rw [hG] at h
  simp at h
end
theorem Bx.put {w : World} {b : Nat} {r c : Int} {v : Value} (h : Bx w b r c v) (r' c' : Int) (v' : Value) :
    Bx (((w.setCell ⟨b, 0, none⟩ (.int .i64 r')).setCell ⟨b, 1, none⟩ (.int .i64 c')).setCell ⟨b, 2, none⟩ v') b r' c' v' ∧ w.grownBy (((w.setCell ⟨b, 0, none⟩ (.int .i64 r')).setCell ⟨b, 1, none⟩ (.int .i64 c')).setCell ⟨b, 2, none⟩ v') (some b) := by
  refine ⟨?_, gb_trans (gb_trans (gb_set w b 0 _) (gb_set _ b 1 _)) (gb_set _ b 2 _)⟩
  unfold Bx at h ⊢
  rw [show #[Value.int .i64 r, Value.int .i64 c, v] = [Value.int .i64 r, Value.int .i64 c, v].toArray from rfl] at h
  rw [heap_set_list _ (heap_set_list _ (heap_set_list _ h))]
  rfl
theorem KB.below {w w' : World} {g n B : Nat} {G : Nat → K} (h : KB w g n G) (hb : Below B w w') (hB : w.heap.size ≤ B) : KB w' g n G := h.of_block (hb.block g (Nat.lt_of_lt_of_le h.lt hB))
theorem gb_new {w w1 w2 : World} {f g : Nat} (h : w.grownBy w1 (some f)) (k : w1.grownBy w2 (some g)) (hg : w.heap.size ≤ g) : w.grownBy w2 (some f) :=
  ⟨k.os.trans h.os, k.tape.trans h.tape, k.output.trans h.output, Nat.le_trans h.size k.size, fun i hi hne => (k.block i (Nat.lt_of_lt_of_le hi h.size) (by simp; omega)).trans (h.block i hi hne)⟩

/-- The first i ones. -/
def oneF (n i : Nat) : Nat → K := fun k => if k / n = k % n ∧ k / n < i then 1 else 0
theorem oneF_step (n i k : Nat) (hn : i < n) : (if k = i * n + i then 1 else oneF n i k) = oneF n (i + 1) k := by
  unfold oneF
  by_cases h : k = i * n + i
  · subst h; rw [if_pos rfl, div_at hn, mod_at hn, if_pos ⟨rfl, by omega⟩]
  · rw [if_neg h]
    by_cases e : k / n = k % n
    · by_cases l : k / n < i
      · rw [if_pos ⟨e, l⟩, if_pos ⟨e, by omega⟩]
      · rw [if_neg (by intro h; exact l h.2), if_neg]
        rintro ⟨_, h2⟩
        have e2 : k / n = i := by omega
        have := Nat.div_add_mod k n
        rw [← e, e2, Nat.mul_comm] at this
        omega
    · rw [if_neg (by intro h; exact e h.1), if_neg (by intro h; exact e h.1)]
theorem oneF_all (n k : Nat) (h : k < n * n) : oneF n n k = flat n dl k := by
  unfold oneF flat dl
  have := div_lt h
  by_cases e : k / n = k % n
  · rw [if_pos ⟨e, this⟩, if_pos e]
  · rw [if_neg (by intro h; exact e h.1), if_neg e]

theorem one_bad (w : World) (n : Int) (h : isSd n = false) : Calls Tryz.prog 28 #[.int .i64 n] w fun e w' => e = .returned (.tuple #[.agg #[.int .i64 0, .int .i64 0, .slice none 0 0], .int .i64 1]) ∧ Below w.heap.size w w' := by
  go_enter Tryz.func28, Tryz.ntmps28
  go_wp2_with (go_at_call 54; refine (isSide_any _ _).mono ?_; rintro e w1 ⟨rfl, rfl⟩)
  exact bodyPost_ret (v := .tuple #[.agg #[.int .i64 0, .int .i64 0, .slice none 0 0], .int .i64 1]) (by simp [results, Tryz.results28, go_sem]) rfl ⟨rfl, (Below.refl _ _).alloc (Nat.le_refl _) _⟩

theorem row_at (w : World) (i : Nat) {r : Int} {c : Nat} {b k cp n x : Nat} (hx : x = k + i * c) (hi : i < 255) (h1 : 1 ≤ c) (hc : c ≤ 255) (h : (i + 1) * c ≤ n) (hn : n ≤ cp) : Calls Tryz.prog 31 #[.agg #[.int .i64 r, .int .i64 c, .slice (some ⟨b, k, none⟩) n cp], .int .i64 i] w fun e w' => e = .returned (.slice (some ⟨b, x, none⟩) c c) ∧ Below w.heap.size w w' := by
  rw [hx]; exact row_any w i hi h1 hc h hn
theorem row_in {i r c : Nat} (h : i < r) : (i + 1) * c ≤ r * c := Nat.mul_le_mul_right _ h

set_option maxRecDepth 100000 in
set_option maxHeartbeats 800000 in
theorem one_ok (w : World) (n : Nat) (h1 : 1 ≤ n) (h2 : n ≤ 255) : Calls Tryz.prog 28 #[.int .i64 n] w fun e w' => ∃ g, e = .returned (.tuple #[.agg #[.int .i64 n, .int .i64 n, .slice (some ⟨g, 0, none⟩) (n * n) (n * n)], .int .i64 0]) ∧ KB w' g (n * n) (flat n dl) ∧ w.heap.size ≤ g ∧ Below w.heap.size w w' := by
  have hs := isSd_nat h1 h2
  have hnn : n * n ≤ 255 * 255 := Nat.mul_le_mul h2 h2
  obtain ⟨N, hN⟩ : ∃ N, N = n * n := ⟨_, rfl⟩
  have HZ : Hid _ := fun w => zeros_any w n n h2 h2
  rw [← hN] at HZ hnn ⊢
  have HN := hide hN
  clear hN
  go_enter Tryz.func28, Tryz.ntmps28
  go_wp2_with (first | (go_at_call 54; refine (isSide_any _ _).mono ?_; rintro e w1 ⟨rfl, rfl⟩) | fail)
  refine Calls.mono (HZ.out _) ?_
  rintro e w1 ⟨g, rfl, hG, hgs, hb⟩
  have hX : Bx w1 w.heap.size 0 0 (.slice none 0 0) := Bx.below (heap_alloc_new w _) hb (Nat.le_refl _)
  have hb1 : Below w.heap.size w w1 := below_step ((Below.refl _ _).alloc (Nat.le_refl _) _) hb
  have hgs' : w.heap.size ≤ g := Nat.le_trans (by simp) hgs
  clear hgs hb
  have hg1 := hG.lt
  have hx1 := hX.lt
  have hne := hX.ne hG
  have A := (Below.refl w1.heap.size w1).alloc (Nat.le_refl _) (.cells #[.int .i64 n, .int .i64 n, .slice (some ⟨g, 0, none⟩) N N] 50)
  have hG2 := hide (hG.below A (Nat.le_refl _))
  have hX2 := hide (hX.below A (Nat.le_refl _))
  have hP2 : Hid (Bx _ w1.heap.size n n (.slice (some ⟨g, 0, none⟩) N N)) := heap_alloc_new w1 (.cells #[.int .i64 n, .int .i64 n, .slice (some ⟨g, 0, none⟩) N N] 50)
  have hb2 := hide (below_alloc hb1 (.cells #[.int .i64 n, .int .i64 n, .slice (some ⟨g, 0, none⟩) N N] 50))
  clear hG hX hb1 A
  go_wp2
  go_loopw [14] (fun i wr => ∃ j : Nat, j ≤ n ∧ i = .int .i64 j ∧ KB wr g N (oneF n j) ∧ Bx wr w1.heap.size n n (.slice (some ⟨g, 0, none⟩) N N) ∧ Bx wr w.heap.size 0 0 (.slice none 0 0) ∧ Below w.heap.size w wr) (fun i _ => n - (intOf i).toNat)
  case atStart => exact ⟨0, Nat.zero_le _, rfl, hG2.out.congr (fun k _ => by rw [oneF, if_neg (by omega)]), hP2.out, hX2.out, hb2.out⟩
  case round =>
    obtain ⟨j, hj, rfl, hG, hP, hX, hb⟩ := hrel
    by_cases hlt : j < n
    · have p0 := hP.cell0
      have p1 := hP.cell1
      have p2 := hP.cell2
      obtain ⟨x, hx⟩ : ∃ x, x = j * n := ⟨_, rfl⟩
      have hxN : x + j < N := by rw [HN.out, hx]; exact at_lt hlt hlt
      have HR : Hid _ := fun w => row_at w j (r := n) (c := n) (b := g) (k := 0) (cp := N) (n := N) (x := x) (by omega) (by omega) h1 h2 (by rw [HN.out]; exact row_in hlt) (Nat.le_refl _)
      have HX := hide hx
      have HG := hide hG
      have HP := hide hP
      have HX1 := hide hX
      have HB := hide hb
      have b0 : (0 : Int) ≤ (j : Int) := by omega
      have b1 : (j : Int) < (n : Int) := by omega
      clear hG hP hX hb hx
      go_wp2_with fail
      refine Calls.mono (HR.out _) ?_
      rintro e w2 ⟨rfl, hb3⟩
      have hG3 := HG.out.below hb3 (Nat.le_refl _)
      have c3 := hG3.cell (x + j) hxN
      have z3 := hG3.free (x + j)
      have hP3 := HP.out.below hb3 (Nat.le_refl _)
      have hX3 := HX1.out.below hb3 (Nat.le_refl _)
      have hb4 := below_step HB.out hb3
      have HG3 := hide hG3
      have HP3 := hide hP3
      have HX3 := hide hX3
      have HB3 := hide hb4
      clear hG3 hP3 hX3 hb4 HG HP HX1 HB hb3 HR p0 p1 p2
      go_wp2
      have gs := gb_set w2 g (x + j) (.int .i64 1)
      refine ⟨⟨j + 1, by omega, by go_num, ?_, HP3.out.of_block (gs.block _ HP3.out.lt (by simp; exact HP3.out.ne HG3.out)), HX3.out.of_block (gs.block _ HX3.out.lt (by simp; exact HX3.out.ne HG3.out)), below_gb HB3.out gs hgs' HB3.out.size⟩, by simp [intOf]; omega⟩
      refine (HG3.out.set (x + j) hxN 1).congr (fun k _ => ?_)
      rw [HX.out, oneF_step n j k hlt]
    · obtain rfl : j = n := by omega
      have p0 := hP.cell0
      have p1 := hP.cell1
      have p2 := hP.cell2
      have q0 := hX.cell0
      have q1 := hX.cell1
      have q2 := hX.cell2
      have f0 := hX.free
      have hlx := hX.lt
      have hlp := hP.lt
      have HG := hide hG
      have HX1 := hide hX
      have HB := hide hb
      clear hG hX hb hP
      go_wp2
      obtain ⟨hX5, g5⟩ := HX1.out.put (j : Int) (j : Int) (.slice (some ⟨g, 0, none⟩) N N)
      refine bodyPost_ret (v := .tuple #[.agg #[.int .i64 j, .int .i64 j, .slice (some ⟨g, 0, none⟩) N N], .int .i64 0]) (by simp [results, Tryz.results28, go_sem, hX5.cell0, hX5.cell1, hX5.cell2]) rfl ⟨g, rfl, ?_, hgs', below_gb HB.out g5 (Nat.le_refl _) HB.out.size⟩
      exact (HG.out.of_block (g5.block g HG.out.lt (by simp; exact fun e => HX1.out.ne HG.out e.symm))).congr (fun k hk => oneF_all j k (by rw [← HN.out]; exact hk))
end Go.Proofs.YtfjkdmiaagalhaaGreat

/-
  The contracts of the document's own zero, One and Cauchy, and of lists that are the same.
-/
import Derived.Test.YtfjkdmiaagalhaaGreatCau
import Derived.Test.YtfjkdmiaagalhaaGreatTimes
namespace Go.Proofs.YtfjkdmiaagalhaaGreat
open Go.RowKit Go.Lib

/-- The document's matrix' three parts in a block of their own. -/
def Br (w : World) (b : Nat) (r c : Int) (v : Value) : Prop := w.heap[b]? = some (.cells #[.int .i64 r, .int .i64 c, v] 57 (0, 0))
section
variable {w w' : World} {b : Nat} {r c : Int} {v : Value}
theorem Br.lt (h : Br w b r c v) : b < w.heap.size := lt_of_block h
theorem Br.cell0 (h : Br w b r c v) : w.cell? ⟨b, 0, none⟩ = some (.int .i64 r) := by rw [cell_of_row w b 0 _ _ _ h]; rfl
theorem Br.cell1 (h : Br w b r c v) : w.cell? ⟨b, 1, none⟩ = some (.int .i64 c) := by rw [cell_of_row w b 1 _ _ _ h]; rfl
theorem Br.cell2 (h : Br w b r c v) : w.cell? ⟨b, 2, none⟩ = some v := by rw [cell_of_row w b 2 _ _ _ h]; rfl
theorem Br.free (h : Br w b r c v) (j : Nat) : w.frozen? ⟨b, j, none⟩ = false := frozen_of_row w b j _ _ h
theorem Br.of_block (h : Br w b r c v) (hb : w'.heap[b]? = w.heap[b]?) : Br w' b r c v := hb.trans h
theorem Br.two {f g : Nat} (h : Br w b r c v) (ht : Two f g w w') (h1 : b ≠ f) (h2 : b ≠ g) : Br w' b r c v := h.of_block (ht.block b h.lt h1 h2)
theorem Br.below {B : Nat} (h : Br w b r c v) (ht : Below B w w') (hB : w.heap.size ≤ B) : Br w' b r c v := h.of_block (ht.block b (Nat.lt_of_lt_of_le h.lt hB))
theorem Br.ne {g n : Nat} {G : Nat → K} (h : Br w b r c v) (hG : KB w g n G) : b ≠ g := by
  intro e
  subst e
  obtain ⟨Z, hG⟩ := hG
  unfold Br at h
  rw [hG] at h
  simp at h
end
theorem Br.put {w : World} {b : Nat} {r c : Int} {v : Value} (h : Br w b r c v) (r' c' : Int) (v' : Value) :
    Br (((w.setCell ⟨b, 0, none⟩ (.int .i64 r')).setCell ⟨b, 1, none⟩ (.int .i64 c')).setCell ⟨b, 2, none⟩ v') b r' c' v' ∧ w.grownBy (((w.setCell ⟨b, 0, none⟩ (.int .i64 r')).setCell ⟨b, 1, none⟩ (.int .i64 c')).setCell ⟨b, 2, none⟩ v') (some b) := by
  refine ⟨?_, gb_trans (gb_trans (gb_set w b 0 _) (gb_set _ b 1 _)) (gb_set _ b 2 _)⟩
  unfold Br at h ⊢
  rw [show #[Value.int .i64 r, Value.int .i64 c, v] = [Value.int .i64 r, Value.int .i64 c, v].toArray from rfl] at h
  rw [heap_set_list _ (heap_set_list _ (heap_set_list _ h))]
  rfl
theorem Br.alloc {w : World} {b : Nat} {r c : Int} {v : Value} (h : Br w b r c v) (o : Obj) : Br (w.alloc o) b r c v := h.below ((Below.refl _ _).alloc (Nat.le_refl _) o) (Nat.le_refl _)
theorem Br.new (w : World) (r c : Int) (v : Value) : Br (w.alloc (.cells #[.int .i64 r, .int .i64 c, v] 57)) w.heap.size r c v := heap_alloc_new w _

theorem refTimes_any (a b : Nat) (ha : a < 256) (hb : b < 256) (w : World) :
    Calls Tryz.prog 58 #[.int .i64 a, .int .i64 b] w fun e w' => e = .returned (.int .i64 ((prod a b : Nat) : Int)) ∧ w' = w := by
  rw [← times_eq a b ha hb]
  exact times_any a b ha hb w


set_option maxRecDepth 100000 in
theorem over_any (a b : Nat) (ha : a < 256) (hb : b < 256) (h0 : b ≠ 0) (w : World) :
    Calls Tryz.prog 33 #[.int .i64 a, .int .i64 b] w fun e w' => e = .returned (.int .i64 ((quot a b : Nat) : Int)) ∧ w' = w := by
  have hq := quot_prod a b ha hb h0
  have hql := quot_lt a b
  obtain ⟨q, hqe⟩ : ∃ q, q = quot a b := ⟨_, rfl⟩
  rw [← hqe] at hq hql ⊢
  clear hqe
  go_enter Tryz.func33, Tryz.ntmps33
  go_wp2
  go_loop [5] (fun i => ∃ j : Nat, j ≤ q ∧ i = .int .i64 j) (fun i => 256 - (intOf i).toNat)
  case atStart => exact ⟨0, by omega, rfl⟩
  case round =>
    obtain ⟨j, hj, rfl⟩ := hrel
    have hT := refTimes_any j b (by omega) hb
    by_cases hjq : j = q
    · subst hjq
      rw [hq] at hT
      go_wp2_with fail
      refine (hT _).mono ?_
      rintro e w1 ⟨rfl, rfl⟩
      go_wp2
      go_ret
      exact ⟨rfl, rfl⟩
    · have hne : prod j b ≠ a := fun h => hjq (prod_cancel j b q (by omega) hql hb h0 (h.trans hq.symm))
      have HT : Hid _ := hT
      clear hT hq
      generalize prod j b = p at *
      have hne' : ((p : Int) == (a : Int)) = false := by simp; omega
      go_wp2_with fail
      refine (HT.out _).mono ?_
      rintro e w1 ⟨rfl, rfl⟩
      go_wp2
      exact ⟨⟨j + 1, by omega, by go_num⟩, by simp [intOf]; omega⟩


set_option maxRecDepth 100000 in
theorem refzero_any (w : World) (r c : Nat) (hr : r ≤ 255) (hc : c ≤ 255) : Calls Tryz.prog 32 #[.int .i64 r, .int .i64 c] w fun e w' => ∃ g, e = .returned (.agg #[.int .i64 r, .int .i64 c, .slice (some ⟨g, 0, none⟩) (r * c) (r * c)]) ∧ KB w' g (r * c) (fun _ => 0) ∧ w.heap.size ≤ g ∧ Below w.heap.size w w' := by
  have hrc : r * c ≤ 255 * 255 := Nat.mul_le_mul hr hc
  obtain ⟨n, hn⟩ : ∃ n, n = r * c := ⟨_, rfl⟩
  have hm : (r : Int) * (c : Int) = (n : Int) := by rw [← Int.natCast_mul, hn]
  rw [← hn] at hrc ⊢
  clear hn
  have hmk : ∀ w : World, _ := fun w => run_make_row' (P := Tryz.prog) 48 3 (.int .i64 0) 8 Tryz.underlying48 Tryz.info3 rfl .i64 .i64 n (by omega) (by omega) w
  go_enter Tryz.func32, Tryz.ntmps32
  go_wp2
  refine bodyPost_ret (v := .agg #[.int .i64 r, .int .i64 c, .slice (some ⟨w.heap.size + 1, 0, none⟩) n n]) (by simp [results, Tryz.results32, go_sem]) rfl ⟨_, rfl, ⟨[], ?_⟩, by omega, ((Below.refl _ _).alloc (Nat.le_refl _) _).alloc (by simp) _⟩
  rw [← made_kcells]
  have := heap_alloc_new (w.alloc (.cells #[.int .i64 r, .int .i64 c, .slice (some ⟨w.heap.size + 1, 0, none⟩) n n] 57)) (.cells (madeCells #[.int .i64 0] n) 3)
  simpa using this


end Go.Proofs.YtfjkdmiaagalhaaGreat

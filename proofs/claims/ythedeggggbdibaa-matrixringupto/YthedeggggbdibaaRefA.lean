/-
  The contracts of the document's own zero, One and Cauchy, and of lists that are the same.
-/
import Derived.Test.YthedeggggbdibaaCau
import Derived.Test.YthedeggggbdibaaTimes
namespace Go.Proofs.Ythedeggggbdibaa
open Go.RowKit Go.Lib

/-- The document's matrix' three parts in a block of their own. -/
def Br (w : World) (b : Nat) (r c : Int) (v : Value) : Prop := w.heap[b]? = some (.cells #[.int .i64 r, .int .i64 c, v] 29 (0, 0))
section
variable {w w' : World} {b : Nat} {r c : Int} {v : Value}
theorem Br.lt (h : Br w b r c v) : b < w.heap.size := lt_of_block h
theorem Br.cell0 (h : Br w b r c v) : w.cell? ⟨b, 0, none⟩ = some (.int .i64 r) := by rw [cell_of_row w b 0 _ _ _ h]; rfl
theorem Br.cell1 (h : Br w b r c v) : w.cell? ⟨b, 1, none⟩ = some (.int .i64 c) := by rw [cell_of_row w b 1 _ _ _ h]; rfl
theorem Br.cell2 (h : Br w b r c v) : w.cell? ⟨b, 2, none⟩ = some v := by rw [cell_of_row w b 2 _ _ _ h]; rfl
theorem Br.free (h : Br w b r c v) (j : Nat) : w.frozen? ⟨b, j, none⟩ = false := frozen_of_row w b j _ _ h
theorem Br.of_block (h : Br w b r c v) (hb : w'.heap[b]? = w.heap[b]?) : Br w' b r c v := hb.trans h
theorem Br.two {f g : Nat} (h : Br w b r c v) (ht : Two f g w w') (h1 : b ≠ f) (h2 : b ≠ g) : Br w' b r c v := h.of_block (ht.block b h.lt h1 h2)
theorem Br.below {B : Nat} (h : Br w b r c v) (ht : Below B w w') (hB : w.heap.size ≤ B) : Br w' b r c v := h.of_block (ht.block b (Nat.lt_of_lt_of_le h.lt hB))
theorem Br.ne {g n : Nat} {G : Nat → K} (h : Br w b r c v) (hG : KB w g n G) : b ≠ g := by
  intro e
  subst e
  obtain ⟨Z, hG⟩ := hG
  unfold Br at h
  rw [hG] at h
  simp at h
end
theorem Br.put {w : World} {b : Nat} {r c : Int} {v : Value} (h : Br w b r c v) (r' c' : Int) (v' : Value) :
    Br (((w.setCell ⟨b, 0, none⟩ (.int .i64 r')).setCell ⟨b, 1, none⟩ (.int .i64 c')).setCell ⟨b, 2, none⟩ v') b r' c' v' ∧ w.grownBy (((w.setCell ⟨b, 0, none⟩ (.int .i64 r')).setCell ⟨b, 1, none⟩ (.int .i64 c')).setCell ⟨b, 2, none⟩ v') (some b) := by
  refine ⟨?_, gb_trans (gb_trans (gb_set w b 0 _) (gb_set _ b 1 _)) (gb_set _ b 2 _)⟩
  unfold Br at h ⊢
  rw [show #[Value.int .i64 r, Value.int .i64 c, v] = [Value.int .i64 r, Value.int .i64 c, v].toArray from rfl] at h
  rw [heap_set_list _ (heap_set_list _ (heap_set_list _ h))]
  rfl
theorem Br.alloc {w : World} {b : Nat} {r c : Int} {v : Value} (h : Br w b r c v) (o : Obj) : Br (w.alloc o) b r c v := h.below ((Below.refl _ _).alloc (Nat.le_refl _) o) (Nat.le_refl _)
theorem Br.new (w : World) (r c : Int) (v : Value) : Br (w.alloc (.cells #[.int .i64 r, .int .i64 c, v] 29)) w.heap.size r c v := heap_alloc_new w _

theorem refTimes_any (a b : Nat) (ha : a < 256) (hb : b < 256) (w : World) :
    Calls Try.prog 38 #[.int .i64 a, .int .i64 b] w fun e w' => e = .returned (.int .i64 ((prod a b : Nat) : Int)) ∧ w' = w := by
  rw [← times_eq a b ha hb]
  exact times_any a b ha hb w


set_option maxRecDepth 100000 in
theorem over_any (a b : Nat) (ha : a < 256) (hb : b < 256) (h0 : b ≠ 0) (w : World) :
    Calls Try.prog 45 #[.int .i64 a, .int .i64 b] w fun e w' => e = .returned (.int .i64 ((quot a b : Nat) : Int)) ∧ w' = w := by
  have hq := quot_prod a b ha hb h0
  have hql := quot_lt a b
  obtain ⟨q, hqe⟩ : ∃ q, q = quot a b := ⟨_, rfl⟩
  rw [← hqe] at hq hql ⊢
  clear hqe
  go_enter Try.func45, Try.ntmps45
  go_wp2
  go_loop [5] (fun i => ∃ j : Nat, j ≤ q ∧ i = .int .i64 j) (fun i => 256 - (intOf i).toNat)
  case atStart => exact ⟨0, by omega, rfl⟩
  case round =>
    obtain ⟨j, hj, rfl⟩ := hrel
    have hT := refTimes_any j b (by omega) hb
    by_cases hjq : j = q
    · subst hjq
      rw [hq] at hT
      go_wp2_with fail
      refine (hT _).mono ?_
      rintro e w1 ⟨rfl, rfl⟩
      go_wp2
      go_ret
      exact ⟨rfl, rfl⟩
    · have hne : prod j b ≠ a := fun h => hjq (prod_cancel j b q (by omega) hql hb h0 (h.trans hq.symm))
      have HT : Hid _ := hT
      clear hT hq
      generalize prod j b = p at *
      have hne' : ((p : Int) == (a : Int)) = false := by simp; omega
      go_wp2_with fail
      refine (HT.out _).mono ?_
      rintro e w1 ⟨rfl, rfl⟩
      go_wp2
      exact ⟨⟨j + 1, by omega, by go_num⟩, by simp [intOf]; omega⟩


set_option maxHeartbeats 800000 in
set_option maxRecDepth 100000 in
theorem sameInts_any {w : World} {f f' : Nat} {v v' : Value} {n : Nat} {Z : Nat → Int} (hp : NX w f v n Z) (hp' : NX w f' v' n Z) (hn : n ≤ 140737488355328) :
    Calls Try.prog 25 #[v, v'] w fun e w' => e = .returned (.bool true) ∧ ∃ m, w' = w.drewN m := by
  obtain ⟨ad, c, rfl, _, hcs⟩ := hp
  obtain ⟨ad', c', rfl, _, hcs'⟩ := hp'
  have HC : Hid _ := hcs
  have HC' : Hid _ := hcs'
  clear hcs hcs'
  go_enter Try.func25, Try.ntmps25
  go_wp2
  go_loopw [5] (fun i wr => ∃ j m : Nat, j ≤ n ∧ i = .int .i64 j ∧ wr = w.drewN m)
    (fun i _ => n - (intOf i).toNat)
  case atStart => exact ⟨0, 0, Nat.zero_le _, rfl, rfl⟩
  case round =>
    obtain ⟨j, m, hj, rfl, hwr⟩ := hrel
    by_cases hlt : j < n
    · obtain ⟨bl, off, rfl, hbl, _, hc⟩ := HC.out.resolve_left (by omega)
      obtain ⟨bl', off', rfl, hbl', _, hc'⟩ := HC'.out.resolve_left (by omega)
      have hcj : wr.cell? ⟨bl, off + j, none⟩ = some (.int .i64 (Z j)) := by rw [hwr]; exact hc j hlt
      have hcj' : wr.cell? ⟨bl', off' + j, none⟩ = some (.int .i64 (Z j)) := by rw [hwr]; exact hc' j hlt
      clear hc hc'
      generalize Z j = p at *
      have HW : Hid _ := hwr
      clear hwr
      have b0 : (0 : Int) ≤ (j : Int) := by omega
      have b1 : (j : Int) < (n : Int) := by omega
      go_wp2
      go_quiet (fail)
      go_wp2
      exact ⟨⟨j + 1, m + nq, by omega, by go_num, by rw [HW.out, World.drewN_drewN]⟩, by simp [intOf]; omega⟩
    · obtain rfl : j = n := by omega
      have HW : Hid _ := hwr
      clear hwr
      go_wp2
      go_ret
      exact ⟨rfl, m, HW.out⟩


set_option maxRecDepth 100000 in
theorem refzero_any (w : World) (r c : Nat) (hr : r ≤ 255) (hc : c ≤ 255) : Calls Try.prog 37 #[.int .i64 r, .int .i64 c] w fun e w' => ∃ g, e = .returned (.agg #[.int .i64 r, .int .i64 c, .slice (some ⟨g, 0, none⟩) (r * c) (r * c)]) ∧ KB w' g (r * c) (fun _ => 0) ∧ w.heap.size ≤ g ∧ Below w.heap.size w w' := by
  have hrc : r * c ≤ 255 * 255 := Nat.mul_le_mul hr hc
  obtain ⟨n, hn⟩ : ∃ n, n = r * c := ⟨_, rfl⟩
  have hm : (r : Int) * (c : Int) = (n : Int) := by rw [← Int.natCast_mul, hn]
  rw [← hn] at hrc ⊢
  clear hn
  have hmk : ∀ w : World, _ := fun w => run_make_row' (P := Try.prog) 22 3 (.int .i64 0) 8 Try.underlying22 Try.info3 rfl .i64 .i64 n (by omega) (by omega) w
  go_enter Try.func37, Try.ntmps37
  go_wp2
  refine bodyPost_ret (v := .agg #[.int .i64 r, .int .i64 c, .slice (some ⟨w.heap.size + 1, 0, none⟩) n n]) (by simp [results, Try.results37, go_sem]) rfl ⟨_, rfl, ⟨[], ?_⟩, by omega, ((Below.refl _ _).alloc (Nat.le_refl _) _).alloc (by simp) _⟩
  rw [← made_kcells]
  have := heap_alloc_new (w.alloc (.cells #[.int .i64 r, .int .i64 c, .slice (some ⟨w.heap.size + 1, 0, none⟩) n n] 29)) (.cells (madeCells #[.int .i64 0] n) 3)
  simpa using this


set_option maxRecDepth 100000 in
theorem refOne_bad (w : World) (n : Int) (h : isSd n = false) : Calls Try.prog 29 #[.int .i64 n] w fun e w' => e = .returned (.tuple #[.agg #[.int .i64 0, .int .i64 0, .slice none 0 0], .int .i64 1]) ∧ Below w.heap.size w w' := by
  have h' : n < 1 ∨ 255 < n := by simp [isSd] at h; omega
  clear h
  rcases h' with h | h
  · go_enter Try.func29, Try.ntmps29
    go_wp2
    exact bodyPost_ret (v := .tuple #[.agg #[.int .i64 0, .int .i64 0, .slice none 0 0], .int .i64 1]) (by simp [results, Try.results29, go_sem]) rfl ⟨rfl, (Below.refl _ _).alloc (Nat.le_refl _) _⟩
  · have h2 : ¬ n < 1 := by omega
    go_enter Try.func29, Try.ntmps29
    go_wp2
    exact bodyPost_ret (v := .tuple #[.agg #[.int .i64 0, .int .i64 0, .slice none 0 0], .int .i64 1]) (by simp [results, Try.results29, go_sem]) rfl ⟨rfl, (Below.refl _ _).alloc (Nat.le_refl _) _⟩

set_option maxRecDepth 100000 in
set_option maxHeartbeats 800000 in
theorem refOne_ok (w : World) (n : Nat) (h1 : 1 ≤ n) (h2 : n ≤ 255) : Calls Try.prog 29 #[.int .i64 n] w fun e w' => ∃ g, e = .returned (.tuple #[.agg #[.int .i64 n, .int .i64 n, .slice (some ⟨g, 0, none⟩) (n * n) (n * n)], .int .i64 0]) ∧ KB w' g (n * n) (flat n dl) ∧ w.heap.size ≤ g ∧ Below w.heap.size w w' := by
  have hnn : n * n ≤ 255 * 255 := Nat.mul_le_mul h2 h2
  obtain ⟨N, hN⟩ : ∃ N, N = n * n := ⟨_, rfl⟩
  have HZ : Hid _ := fun w => refzero_any w n n h2 h2
  rw [← hN] at HZ hnn ⊢
  have HN := hide hN
  clear hN
  have i1 : ¬ (n : Int) < 1 := by omega
  have i2 : ¬ 255 < (n : Int) := by omega
  go_enter Try.func29, Try.ntmps29
  go_wp2_with fail
  refine Calls.mono (HZ.out _) ?_
  rintro e w1 ⟨g, rfl, hG, hgs, hb⟩
  have hX : Br w1 w.heap.size 0 0 (.slice none 0 0) := Br.below (heap_alloc_new w _) hb (Nat.le_refl _)
  have hb1 : Below w.heap.size w w1 := below_step ((Below.refl _ _).alloc (Nat.le_refl _) _) hb
  have hgs' : w.heap.size ≤ g := Nat.le_trans (by simp) hgs
  clear hgs hb
  have hG2 := hide (hG.alloc (.cells #[.int .i64 n, .int .i64 n, .slice (some ⟨g, 0, none⟩) N N] 29))
  have hX2 := hide (hX.alloc (.cells #[.int .i64 n, .int .i64 n, .slice (some ⟨g, 0, none⟩) N N] 29))
  have hP2 := hide (Br.new w1 n n (.slice (some ⟨g, 0, none⟩) N N))
  have hb2 := hide (below_alloc hb1 (.cells #[.int .i64 n, .int .i64 n, .slice (some ⟨g, 0, none⟩) N N] 29))
  clear hG hX hb1
  go_wp2
  go_loopw [5] (fun i wr => ∃ j : Nat, j ≤ n ∧ i = .int .i64 j ∧ KB wr g N (oneF n j) ∧ Br wr w1.heap.size n n (.slice (some ⟨g, 0, none⟩) N N) ∧ Br wr w.heap.size 0 0 (.slice none 0 0) ∧ Below w.heap.size w wr) (fun i _ => n - (intOf i).toNat)
  case atStart => exact ⟨0, Nat.zero_le _, rfl, hG2.out.congr (fun k _ => by rw [oneF, if_neg (by omega)]), hP2.out, hX2.out, hb2.out⟩
  case round =>
    obtain ⟨j, hj, rfl, hG, hP, hX, hb⟩ := hrel
    by_cases hlt : j < n
    · have p2 := hP.cell2
      obtain ⟨x, hx⟩ : ∃ x, x = j * n := ⟨_, rfl⟩
      have hxi : (j : Int) * (n : Int) = (x : Int) := by rw [← Int.natCast_mul, hx]
      have hxN : x + j < N := by rw [HN.out, hx]; exact at_lt hlt hlt
      have c3 := hG.cell (x + j) hxN
      have z3 := hG.free (x + j)
      have HX := hide hx
      have HG := hide hG
      have HP := hide hP
      have HX1 := hide hX
      have HB := hide hb
      have b0 : (0 : Int) ≤ (x : Int) + (j : Int) := by omega
      have b1 : (x : Int) + (j : Int) < (N : Int) := by omega
      have b2 : ((x : Int) + (j : Int)).toNat = x + j := by omega
      clear hG hP hX hb hx
      go_wp2
      have gs := gb_set wr g (x + j) (.int .i64 1)
      refine ⟨⟨j + 1, by omega, by go_num, ?_, HP.out.of_block (gs.block _ HP.out.lt (by simp; exact HP.out.ne HG.out)), HX1.out.of_block (gs.block _ HX1.out.lt (by simp; exact HX1.out.ne HG.out)), below_gb HB.out gs hgs' HB.out.size⟩, by simp [intOf]; omega⟩
      refine (HG.out.set (x + j) hxN 1).congr (fun k _ => ?_)
      rw [HX.out, oneF_step n j k hlt]
    · obtain rfl : j = n := by omega
      have p0 := hP.cell0
      have p1 := hP.cell1
      have p2 := hP.cell2
      have q0 := hX.cell0
      have q1 := hX.cell1
      have q2 := hX.cell2
      have f0 := hX.free
      have HG := hide hG
      have HX1 := hide hX
      have HB := hide hb
      clear hG hX hb hP
      go_wp2
      obtain ⟨hX5, g5⟩ := HX1.out.put (j : Int) (j : Int) (.slice (some ⟨g, 0, none⟩) N N)
      refine bodyPost_ret (v := .tuple #[.agg #[.int .i64 j, .int .i64 j, .slice (some ⟨g, 0, none⟩) N N], .int .i64 0]) (by simp [results, Try.results29, go_sem, hX5.cell0, hX5.cell1, hX5.cell2]) rfl ⟨g, rfl, ?_, hgs', below_gb HB.out g5 (Nat.le_refl _) HB.out.size⟩
      exact (HG.out.of_block (g5.block g HG.out.lt (by simp; exact fun e => HX1.out.ne HG.out e.symm))).congr (fun k hk => oneF_all j k (by rw [← HN.out]; exact hk))
end Go.Proofs.Ythedeggggbdibaa

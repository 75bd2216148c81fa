/-
  The contract of the document's own Cauchy.
-/
import Derived.Test.YtfjkdmiaagalhaaGreatRefA
namespace Go.Proofs.YtfjkdmiaagalhaaGreat
open Go.RowKit Go.Lib

def rc0 (k j : Nat) : Nat → K := fun t => if t % k < j then cauM k (t / k) (t % k) else 0
def rcS (k j i : Nat) : Nat → K := fun t => if t % k < j ∨ (t % k = j ∧ t / k < k + i) then cauM k (t / k) (t % k) else 0
theorem at_eq {k t r j : Nat} (h1 : t / k = r) (h2 : t % k = j) : t = r * k + j := by
  have e := Nat.div_add_mod t k
  rw [h1, h2, Nat.mul_comm] at e
  exact e.symm
theorem rc_diag (k j t : Nat) (hj : j < k) : (if t = j * k + j then 1 else rc0 k j t) = rcS k j 0 t := by
  by_cases h : t = j * k + j
  · subst h
    rw [if_pos rfl, rcS, div_at hj, mod_at hj, if_pos (by omega), cauM, if_pos hj, dl_self]
  · rw [if_neg h, rc0, rcS]
    by_cases h1 : t % k < j
    · rw [if_pos h1, if_pos (.inl h1)]
    · rw [if_neg h1]
      by_cases h2 : t % k = j ∧ t / k < k + 0
      · rw [if_pos (.inr h2), cauM, if_pos (by omega), dl_ne]
        intro e
        exact h (at_eq (e.trans h2.1) h2.1)
      · rw [if_neg (by omega)]
theorem rc_step (k j i t : Nat) (hj : j < k) : (if t = (k + i) * k + j then K.inv (xk (k + i) j) else rcS k j i t) = rcS k j (i + 1) t := by
  by_cases h : t = (k + i) * k + j
  · subst h
    rw [if_pos rfl, rcS, div_at hj, mod_at hj, if_pos (by omega), cauM, if_neg (by omega)]
  · rw [if_neg h, rcS, rcS]
    by_cases h1 : t % k < j ∨ (t % k = j ∧ t / k < k + i)
    · rw [if_pos h1, if_pos (by omega)]
    · rw [if_neg h1, if_neg]
      intro h2
      exact h (at_eq (by omega) (by omega))
theorem rc_next (k j m t : Nat) (ht : t < (k + m) * k) : rcS k j m t = rc0 k (j + 1) t := by
  have := div_lt ht
  unfold rcS rc0
  by_cases h1 : t % k < j ∨ (t % k = j ∧ t / k < k + m)
  · rw [if_pos h1, if_pos (by omega)]
  · rw [if_neg h1, if_neg (by omega)]
theorem rc_all (k t : Nat) (hk : 0 < k) : rc0 k k t = flat k (cauM k) t := by
  rw [rc0, if_pos (Nat.mod_lt t hk), flat]

set_option maxRecDepth 100000 in
theorem refCauchy_bad {w : World} (k m : Int) (h : k < 1 ∨ m < 0 ∨ 255 - m < k) : Calls Tryz.prog 16 #[.int .i64 k, .int .i64 m] w fun e w' => e = .returned (.tuple #[.agg #[.int .i64 0, .int .i64 0, .slice none 0 0], .int .i64 1]) ∧ Below w.heap.size w w' := by
  by_cases h1 : k < 1
  · go_enter Tryz.func16, Tryz.ntmps16
    go_wp2
    exact bodyPost_ret (v := .tuple #[.agg #[.int .i64 0, .int .i64 0, .slice none 0 0], .int .i64 1]) (by simp [results, Tryz.results16, go_sem]) rfl ⟨rfl, (Below.refl _ _).alloc (Nat.le_refl _) _⟩
  by_cases h2 : m < 0
  · go_enter Tryz.func16, Tryz.ntmps16
    go_wp2
    exact bodyPost_ret (v := .tuple #[.agg #[.int .i64 0, .int .i64 0, .slice none 0 0], .int .i64 1]) (by simp [results, Tryz.results16, go_sem]) rfl ⟨rfl, (Below.refl _ _).alloc (Nat.le_refl _) _⟩
  have h3 : 255 - m < k := by omega
  clear h
  by_cases h4 : 255 < k
  · go_enter Tryz.func16, Tryz.ntmps16
    go_wp2
    exact bodyPost_ret (v := .tuple #[.agg #[.int .i64 0, .int .i64 0, .slice none 0 0], .int .i64 1]) (by simp [results, Tryz.results16, go_sem]) rfl ⟨rfl, (Below.refl _ _).alloc (Nat.le_refl _) _⟩
  have h5 : 255 - k < m := by omega
  clear h3
  go_enter Tryz.func16, Tryz.ntmps16
  go_wp2
  exact bodyPost_ret (v := .tuple #[.agg #[.int .i64 0, .int .i64 0, .slice none 0 0], .int .i64 1]) (by simp [results, Tryz.results16, go_sem]) rfl ⟨rfl, (Below.refl _ _).alloc (Nat.le_refl _) _⟩

structure RcI (w : World) (g N pb : Nat) (rr cc : Nat) (G : Nat → K) (wr : World) : Prop where
  G : KB wr g N G
  r : Br wr w.heap.size 0 0 (.slice none 0 0)
  p : Br wr pb rr cc (.slice (some ⟨g, 0, none⟩) N N)
  gr : Below w.heap.size w wr
theorem RcI.congr {w : World} {g N pb rr cc : Nat} {G G' : Nat → K} {wr : World} (h : RcI w g N pb rr cc G wr) (e : ∀ t, t < N → G t = G' t) : RcI w g N pb rr cc G' wr := ⟨h.G.congr e, h.r, h.p, h.gr⟩
theorem RcI.set {w : World} {g N pb rr cc : Nat} {G : Nat → K} {wr : World} (h : RcI w g N pb rr cc G wr) (i : Nat) (hi : i < N) (x : K) (hg : w.heap.size ≤ g) : RcI w g N pb rr cc (fun k => if k = i then x else G k) (wr.setCell ⟨g, i, none⟩ (.int .i64 ((x.v : Nat) : Int))) := by
  have gs := gb_set wr g i (.int .i64 ((x.v : Nat) : Int))
  exact ⟨h.G.set i hi x, h.r.of_block (gs.block _ h.r.lt (by simp; exact h.r.ne h.G)), h.p.of_block (gs.block _ h.p.lt (by simp; exact h.p.ne h.G)), below_gb h.gr gs hg h.gr.size⟩
theorem RcI.drewN {w : World} {g N pb rr cc : Nat} {G : Nat → K} {wr : World} (h : RcI w g N pb rr cc G wr) (n : Nat) : RcI w g N pb rr cc G (wr.drewN n) := ⟨h.G, h.r, h.p, below_drew h.gr n⟩

/-- Draws alone lie between. -/
structure Dr (w w' : World) : Prop where
  ex : ∃ q, w' = w.drewN q

set_option maxRecDepth 100000 in
set_option maxHeartbeats 1600000 in
theorem refCauchy_ok {w : World} {k m : Nat} (k1 : 1 ≤ k) (km : k + m ≤ 255) :
    Calls Tryz.prog 16 #[.int .i64 k, .int .i64 m] w fun e w' =>
      ∃ g, e = .returned (.tuple #[.agg #[.int .i64 ((k + m : Nat) : Int), .int .i64 k, .slice (some ⟨g, 0, none⟩) ((k + m) * k) ((k + m) * k)], .int .i64 0]) ∧ KB w' g ((k + m) * k) (flat k (cauM k)) ∧ w.heap.size ≤ g ∧ Below w.heap.size w w' := by
  obtain ⟨n, hn⟩ : ∃ n, n = k + m := ⟨_, rfl⟩
  have hni : (k : Int) + (m : Int) = (n : Int) := by omega
  have QM : Hid (∀ j t, t < (k + m) * k → rcS k j m t = rc0 k (j + 1) t) := fun j t ht => rc_next k j m t ht
  rw [← hn] at km QM ⊢
  have hkn : k ≤ n := by omega
  have hNN : n * k ≤ 255 * 255 := Nat.mul_le_mul km (by omega)
  have HZ : Hid _ := fun w => refzero_any w n k km (by omega)
  have QN : Hid (∀ i j, i < n → j < k → i * k + j < n * k) := fun i j hi hj => at_lt hi hj
  generalize n * k = N at *
  have i1 : ¬ (k : Int) < 1 := by omega
  have i2 : ¬ (m : Int) < 0 := by omega
  have i3 : ¬ (255 : Int) < (k : Int) := by omega
  have i4 : ¬ (255 : Int) - (k : Int) < (m : Int) := by omega
  have HNN := hide hn
  clear hn
  go_enter Tryz.func16, Tryz.ntmps16
  go_wp2_with fail
  refine Calls.mono (HZ.out _) ?_
  rintro e w1 ⟨g, rfl, hG, hgs, hb⟩
  have hX : Br w1 w.heap.size 0 0 (.slice none 0 0) := Br.below (heap_alloc_new w _) hb (Nat.le_refl _)
  have hb1 : Below w.heap.size w w1 := below_step ((Below.refl _ _).alloc (Nat.le_refl _) _) hb
  have hgs' : w.heap.size ≤ g := Nat.le_trans (by simp) hgs
  have I : RcI w g N w1.heap.size n k (rc0 k 0) (w1.alloc (.cells #[.int .i64 n, .int .i64 k, .slice (some ⟨g, 0, none⟩) N N] 57)) :=
    ⟨(hG.alloc _).congr (fun t _ => by rw [rc0, if_neg (Nat.not_lt_zero _)]), hX.alloc _, Br.new w1 n k _, below_alloc hb1 _⟩
  have HI := hide I
  clear hgs hb hX hb1 hG I
  go_wp2
  go_loopw [7] (fun z wr => ∃ j : Nat, j ≤ k ∧ z = .int .i64 j ∧ RcI w g N w1.heap.size n k (rc0 k j) wr) (fun z _ => k - (intOf z).toNat)
  case atStart => exact ⟨0, Nat.zero_le _, rfl, HI.out⟩
  case round =>
    obtain ⟨j, hj, rfl, I⟩ := hrel
    clear HI
    by_cases hlt : j < k
    · have p2 := I.p.cell2
      obtain ⟨x, hx⟩ : ∃ x, x = j * k := ⟨_, rfl⟩
      have hxi : (j : Int) * (k : Int) = (x : Int) := by rw [← Int.natCast_mul, hx]
      have hxN : x + j < N := by rw [hx]; exact QN.out j j (by omega) hlt
      have c3 := I.G.cell (x + j) hxN
      have z3 := I.G.free (x + j)
      have I' : RcI w g N w1.heap.size n k (rcS k j 0) (wr.setCell ⟨g, x + j, none⟩ (.int .i64 1)) := (I.set (x + j) hxN 1 hgs').congr (fun t _ => by rw [hx]; exact rc_diag k j t hlt)
      have HI := hide I'
      have b0 : (0 : Int) ≤ (x : Int) + (j : Int) := by omega
      have b1 : (x : Int) + (j : Int) < (N : Int) := by omega
      have b2 : ((x : Int) + (j : Int)).toNat = x + j := by omega
      clear hx I I'
      go_wp2
      go_loopw [8] (fun z wr => ∃ i : Nat, i ≤ m ∧ z = .int .i64 i ∧ RcI w g N w1.heap.size n k (rcS k j i) wr) (fun z _ => m - (intOf z).toNat)
      case atStart => exact ⟨0, Nat.zero_le _, rfl, HI.out⟩
      case round =>
        obtain ⟨i, hi, rfl, I⟩ := hrel
        clear HI c3 z3 p2 b0 b1 b2 hxi hxN
        by_cases hlt2 : i < m
        · obtain ⟨y, hy⟩ : ∃ y, y = (k + i) * k := ⟨_, rfl⟩
          obtain ⟨r, hr⟩ : ∃ r, r = k + i := ⟨_, rfl⟩
          have hri : (k : Int) + (i : Int) = (r : Int) := by omega
          rw [← hr] at hy
          have hrn : r < n := by have := HNN.out; omega
          have hyi : (r : Int) * (k : Int) = (y : Int) := by rw [← Int.natCast_mul, hy]
          have hyN : y + j < N := by rw [hy]; exact QN.out r j hrn hlt
          have hxv := xk_v (show r < 256 by omega) (show j < 256 by omega)
          have hx0 : (xk r j).v ≠ 0 := by rw [hxv]; intro h; have h' := congrArg (· ^^^ j) h; simp only [Nat.xor_assoc, Nat.xor_self, Nat.xor_zero, Nat.zero_xor] at h'; omega
          have hx : bits .xor .i64 (r : Int) (j : Int) = (((xk r j).v : Nat) : Int) := by rw [hxv]; exact xor_i64 r j (by omega) (by omega)
          have hwa : IntKind.i64.wrap ((k : Int) + (i : Int)) = (r : Int) := by rw [hri]; exact wraps_i64 _ (by omega) (by omega)
          have hwb : IntKind.i64.wrap ((r : Int) * (k : Int)) = (y : Int) := by rw [hyi]; exact wraps_i64 _ (by omega) (by omega)
          have hwc : IntKind.i64.wrap ((y : Int) + (j : Int)) = (y : Int) + (j : Int) := wraps_i64 _ (by omega) (by omega)
          clear hri hyi
          have R : Hid (∀ (u : Value) (w' : World), u = .int .i64 (((xk r j).v : Nat) : Int) → Dr wr w' → Calls Tryz.prog 33 #[.int .i64 1, u] w' fun e w'' => e = .returned (.int .i64 (((K.inv (xk r j)).v : Nat) : Int)) ∧ Dr wr w'' ∧ w''.cell? ⟨w1.heap.size, 2, none⟩ = some (.slice (some ⟨g, 0, none⟩) N N) ∧ w''.cell? ⟨g, y + j, none⟩ = some (.int .i64 (((rcS k j i (y + j)).v : Nat) : Int)) ∧ w''.frozen? ⟨g, y + j, none⟩ = false) := by
            rintro u w' rfl ⟨q, rfl⟩
            refine (over_any 1 (xk r j).v (by decide) (xk r j).lt hx0 _).mono ?_
            rintro e w'' ⟨rfl, rfl⟩
            exact ⟨rfl, ⟨⟨q, rfl⟩⟩, (I.drewN q).p.cell2, (I.drewN q).G.cell _ hyN, (I.drewN q).G.free _⟩
          have FIN : Hid (∀ w', Dr wr w' → RcI w g N w1.heap.size n k (rcS k j (i + 1)) (w'.setCell ⟨g, y + j, none⟩ (.int .i64 (((K.inv (xk r j)).v : Nat) : Int)))) := by
            rintro w' ⟨q, rfl⟩
            exact ((I.drewN q).set (y + j) hyN _ hgs').congr (fun t _ => by rw [hy, hr]; exact rc_step k j i t hlt)
          have m2 := I.p.cell2
          have np := I.p.ne I.G
          have c4 := I.G.cell (y + j) hyN
          have z4 := I.G.free (y + j)
          have D0 : Hid (Dr wr wr.drew) := ⟨⟨1, rfl⟩⟩
          have b0 : (0 : Int) ≤ (y : Int) + (j : Int) := by omega
          have b1 : (y : Int) + (j : Int) < (N : Int) := by omega
          have b2 : ((y : Int) + (j : Int)).toNat = y + j := by omega
          have hv0 := (xk r j).lt
          clear I hy hxv hr
          generalize (K.inv (xk r j)).v = vv at *
          generalize (xk r j).v = uu at *
          generalize (rcS k j i (y + j)).v = oo at *
          go_wp2_with fail
          go_region_held3 (fun w' => w'.cell? ⟨w1.heap.size, 2, none⟩ = some (.slice (some ⟨g, 0, none⟩) N N)) (first | assumption | exact m2 | exact (cell_off np).trans (by assumption))
            (first
              | (go_at_call 33; refine (R.out _ _ (by with_reducible rfl) (by first | assumption | exact D0.out)).mono ?_; rintro e wb ⟨rfl, kb, kb1, kb2, kb3⟩))
          all_goals
            clear R
            go_wp2
            exact ⟨⟨i + 1, by omega, by go_num, FIN.out _ kb⟩, by simp [intOf]; omega⟩
        · obtain rfl : i = m := by omega
          have HI := hide I
          clear I
          go_wp2
          exact ⟨⟨j + 1, by omega, by go_num, HI.out.congr (fun t ht => QM.out j t ht)⟩, by simp [intOf]; omega⟩
    · obtain rfl : j = k := by omega
      have p0 := I.p.cell0
      have p1 := I.p.cell1
      have p2 := I.p.cell2
      have q0 := I.r.cell0
      have q1 := I.r.cell1
      have q2 := I.r.cell2
      have f2 := I.r.free
      have hne := I.r.ne I.G
      have HI := hide I
      clear I
      go_wp2
      obtain ⟨hX5, g5⟩ := HI.out.r.put (n : Int) (j : Int) (.slice (some ⟨g, 0, none⟩) N N)
      refine bodyPost_ret (v := .tuple #[.agg #[.int .i64 n, .int .i64 j, .slice (some ⟨g, 0, none⟩) N N], .int .i64 0]) (by simp [results, Tryz.results16, go_sem, hX5.cell0, hX5.cell1, hX5.cell2]) rfl ⟨g, rfl, ?_, hgs', below_gb HI.out.gr g5 (Nat.le_refl _) HI.out.gr.size⟩
      exact (HI.out.G.of_block (g5.block g HI.out.G.lt (by simp; exact fun e => hne e.symm))).congr (fun t ht => rc_all j t k1)
end Go.Proofs.YtfjkdmiaagalhaaGreat

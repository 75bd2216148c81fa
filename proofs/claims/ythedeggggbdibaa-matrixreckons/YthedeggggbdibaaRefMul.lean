/-
  The contract of the document's own Mul.
-/
import Derived.Test.YthedeggggbdibaaRefC
namespace Go.Proofs.Ythedeggggbdibaa
open Go.RowKit Go.Lib

/-- i rows are done, and j members of the next. -/
def mulS (c : Nat) (M : Mt) (i j : Nat) : Nat → K := fun t => if t / c < i ∨ (t / c = i ∧ t % c < j) then M (t / c) (t % c) else 0
theorem mulS_next (c : Nat) (M : Mt) (i t : Nat) (hc : 0 < c) : mulS c M i c t = mulS c M (i + 1) 0 t := by
  have := Nat.mod_lt t hc
  unfold mulS
  by_cases h : t / c < i ∨ (t / c = i ∧ t % c < c)
  · rw [if_pos h, if_pos (by omega)]
  · rw [if_neg h, if_neg (by omega)]
theorem mulS_step (c : Nat) (M : Mt) (i j t : Nat) (hj : j < c) : (if t = i * c + j then M i j else mulS c M i j t) = mulS c M i (j + 1) t := by
  by_cases h : t = i * c + j
  · subst h
    rw [if_pos rfl, mulS, div_at hj, mod_at hj, if_pos (by omega)]
  · rw [if_neg h]
    unfold mulS
    by_cases h2 : t / c < i ∨ (t / c = i ∧ t % c < j)
    · rw [if_pos h2, if_pos (by omega)]
    · rw [if_neg h2, if_neg]
      intro h3
      exact h (at_eq (by omega) (by omega))
theorem mulS_all (c n : Nat) (M : Mt) (t : Nat) (h : t < n * c) : mulS c M n 0 t = flat c M t := by
  rw [mulS, if_pos (.inl (div_lt h)), flat]
theorem mulS_zero (c : Nat) (M : Mt) (t : Nat) : mulS c M 0 0 t = 0 := by
  rw [mulS, if_neg (fun h => by rcases h with h | h; exact Nat.not_lt_zero _ h; exact Nat.not_lt_zero _ h.2)]

structure RMul (w : World) (g N pb ra ca cb : Nat) (va vb : Value) (G : Nat → K) (wr : World) : Prop where
  G : KB wr g N G
  a : Br wr w.heap.size ra ca va
  b : Br wr (w.heap.size + 1) ca cb vb
  r : Br wr (w.heap.size + 2) 0 0 (.slice none 0 0)
  p : Br wr pb ra cb (.slice (some ⟨g, 0, none⟩) N N)
  gr : Below w.heap.size w wr
theorem RMul.below {w : World} {g N pb ra ca cb : Nat} {va vb : Value} {G : Nat → K} {wr w' : World} (h : RMul w g N pb ra ca cb va vb G wr) (hb : Below wr.heap.size wr w') : RMul w g N pb ra ca cb va vb G w' :=
  ⟨h.G.below hb (Nat.le_refl _), h.a.below hb (Nat.le_refl _), h.b.below hb (Nat.le_refl _), h.r.below hb (Nat.le_refl _), h.p.below hb (Nat.le_refl _), below_step h.gr hb⟩
theorem RMul.set {w : World} {g N pb ra ca cb : Nat} {va vb : Value} {G : Nat → K} {wr : World} (h : RMul w g N pb ra ca cb va vb G wr) (i : Nat) (hi : i < N) (x : K) (hg : w.heap.size ≤ g) : RMul w g N pb ra ca cb va vb (fun k => if k = i then x else G k) (wr.setCell ⟨g, i, none⟩ (.int .i64 ((x.v : Nat) : Int))) := by
  have gs := gb_set wr g i (.int .i64 ((x.v : Nat) : Int))
  exact ⟨h.G.set i hi x, h.a.of_block (gs.block _ h.a.lt (by simp; exact h.a.ne h.G)), h.b.of_block (gs.block _ h.b.lt (by simp; exact h.b.ne h.G)), h.r.of_block (gs.block _ h.r.lt (by simp; exact h.r.ne h.G)), h.p.of_block (gs.block _ h.p.lt (by simp; exact h.p.ne h.G)), below_gb h.gr gs hg h.gr.size⟩
theorem RMul.congr {w : World} {g N pb ra ca cb : Nat} {va vb : Value} {G G' : Nat → K} {wr : World} (h : RMul w g N pb ra ca cb va vb G wr) (e : ∀ t, t < N → G t = G' t) : RMul w g N pb ra ca cb va vb G' wr := ⟨h.G.congr e, h.a, h.b, h.r, h.p, h.gr⟩

set_option maxRecDepth 100000 in
set_option maxHeartbeats 1600000 in
theorem refMul_ok {w : World} {f f' ra ca cb : Nat} {va vb : Value} {A B : Nat → K} (a1 : 1 ≤ ra) (a2 : ra ≤ 255) (c1 : 1 ≤ ca) (c2 : ca ≤ 255) (b1 : 1 ≤ cb) (b2 : cb ≤ 255)
    (hA : NX w f va (ra * ca) (fun k => (((A k).v : Nat) : Int))) (hB : NX w f' vb (ca * cb) (fun k => (((B k).v : Nat) : Int))) :
    Calls Try.prog 13 #[.agg #[.int .i64 ra, .int .i64 ca, va], .agg #[.int .i64 ca, .int .i64 cb, vb]] w fun e w' =>
      ∃ g, e = .returned (.tuple #[.agg #[.int .i64 ra, .int .i64 cb, .slice (some ⟨g, 0, none⟩) (ra * cb) (ra * cb)], .int .i64 0]) ∧ KB w' g (ra * cb) (flat cb (mm ca (mt ca A) (mt cb B))) ∧ w.heap.size ≤ g ∧ Below w.heap.size w w' := by
  have hNN : ra * cb ≤ 255 * 255 := Nat.mul_le_mul a2 b2
  have hNA : ra * ca ≤ 255 * 255 := Nat.mul_le_mul a2 c2
  have hNB : ca * cb ≤ 255 * 255 := Nat.mul_le_mul c2 b2
  obtain ⟨ba, oa, cpa, rfl, ha3, ha4, ha5⟩ := hA.at (Nat.mul_ne_zero (by omega) (by omega))
  obtain ⟨bb, ob, cpb, rfl, hb3, hb4, hb5⟩ := hB.at (Nat.mul_ne_zero (by omega) (by omega))
  have HZ : Hid _ := fun w => refzero_any w ra cb a2 b2
  have EA := chk_ok a1 a2 c1 c2 A
  have EB := chk_ok c1 c2 b1 b2 B
  have QA : Hid (∀ i j, i < ra → j < ca → i * ca + j < ra * ca) := fun i j hi hj => at_lt hi hj
  have QB : Hid (∀ i j, i < ca → j < cb → i * cb + j < ca * cb) := fun i j hi hj => at_lt hi hj
  have QN : Hid (∀ i j, i < ra → j < cb → i * cb + j < ra * cb) := fun i j hi hj => at_lt hi hj
  obtain ⟨M, hM⟩ : ∃ M, M = mm ca (mt ca A) (mt cb B) := ⟨_, rfl⟩
  rw [← hM]
  have QP : Hid (∀ k, k < ra * cb → mulS cb M ra 0 k = flat cb M k) := fun k hk => mulS_all cb ra M k hk
  generalize ra * cb = N at *
  generalize ra * ca = NA at *
  generalize ca * cb = NB at *
  obtain ⟨oA, hoA⟩ : ∃ o, o = Obj.cells #[.int .i64 ra, .int .i64 ca, .slice (some ⟨ba, oa, none⟩) NA cpa] 29 := ⟨_, rfl⟩
  obtain ⟨oB, hoB⟩ : ∃ o, o = Obj.cells #[.int .i64 ca, .int .i64 cb, .slice (some ⟨bb, ob, none⟩) NB cpb] 29 := ⟨_, rfl⟩
  obtain ⟨oR, hoR⟩ : ∃ o, o = Obj.cells #[.int .i64 0, .int .i64 0, .slice none 0 0] 29 := ⟨_, rfl⟩
  have A3 := ((hA.alloc oA).alloc oB).alloc oR
  have B3 := ((hB.alloc oA).alloc oB).alloc oR
  have X4 := ((show Br (w.alloc oA) w.heap.size ra ca (.slice (some ⟨ba, oa, none⟩) NA cpa) by rw [hoA]; exact Br.new _ _ _ _).alloc oB).alloc oR
  have X5 := (show Br ((w.alloc oA).alloc oB) (w.alloc oA).heap.size ca cb (.slice (some ⟨bb, ob, none⟩) NB cpb) by rw [hoB]; exact Br.new _ _ _ _).alloc oR
  have X6 := show Br (((w.alloc oA).alloc oB).alloc oR) ((w.alloc oA).alloc oB).heap.size 0 0 (.slice none 0 0) by rw [hoR]; exact Br.new _ _ _ _
  rw [show (w.alloc oA).heap.size = w.heap.size + 1 by simp] at X5
  rw [show ((w.alloc oA).alloc oB).heap.size = w.heap.size + 2 by simp] at X6
  have L3 := below_alloc (below_alloc (below_alloc (Below.refl w.heap.size w) oA) oB) oR
  rw [hoA, hoB, hoR] at A3 B3 X4 X5 X6 L3
  have HA3 := hide A3
  have HB3 := hide B3
  have HX4 := hide X4
  have HX5 := hide X5
  have HX6 := hide X6
  have HL3 := hide L3
  have HA := hide hA
  have HB := hide hB
  have HM := hide hM
  clear A3 B3 X4 X5 X6 L3 hA hB hoA hoB hoR hM
  go_enter Try.func13, Try.ntmps13
  go_wp2_with fail
  refine (refCheck_any HA3.out (by omega)).mono ?_
  rintro e w1 ⟨rfl, k1⟩
  rw [EA]
  have B1 := HB3.out.below k1
  have X41 := HX4.out.below k1 (Nat.le_refl _)
  have X51 := HX5.out.below k1 (Nat.le_refl _)
  have X61 := HX6.out.below k1 (Nat.le_refl _)
  have L1 := below_step HL3.out k1
  have p0 := X51.cell0
  have p1 := X51.cell1
  have p2 := X51.cell2
  have HB1 := hide B1
  have HX41 := hide X41
  have HX51 := hide X51
  have HX61 := hide X61
  have HL1 := hide L1
  clear B1 X41 X51 X61 L1 HA3 HB3 HX4 HX5 HX6 HL3 k1 EA
  go_wp2_with fail
  refine (refCheck_any HB1.out (by omega)).mono ?_
  rintro e w2 ⟨rfl, k2⟩
  rw [EB]
  have X42 := HX41.out.below k2 (Nat.le_refl _)
  have X52 := HX51.out.below k2 (Nat.le_refl _)
  have X62 := HX61.out.below k2 (Nat.le_refl _)
  have L2 := below_step HL1.out k2
  clear HB1 HX41 HX51 HX61 HL1 k2 EB p0 p1 p2
  have p0 := X52.cell0
  have p1 := X52.cell1
  have q0 := X42.cell0
  have q1 := X42.cell1
  have HX42 := hide X42
  have HX52 := hide X52
  have HX62 := hide X62
  have HL2 := hide L2
  clear X42 X52 X62 L2
  go_wp2_with fail
  refine Calls.mono (HZ.out _) ?_
  rintro e w3 ⟨g, rfl, hG, hgs, k3⟩
  have hgs' : w.heap.size ≤ g := Nat.le_trans HL2.out.size hgs
  have I : RMul w g N w3.heap.size ra ca cb (.slice (some ⟨ba, oa, none⟩) NA cpa) (.slice (some ⟨bb, ob, none⟩) NB cpb) (mulS cb M 0 0) (w3.alloc (.cells #[.int .i64 ra, .int .i64 cb, .slice (some ⟨g, 0, none⟩) N N] 29)) :=
    ⟨(hG.congr (fun t _ => (mulS_zero cb M t).symm)).alloc _, (HX42.out.below k3 (Nat.le_refl _)).alloc _, (HX52.out.below k3 (Nat.le_refl _)).alloc _, (HX62.out.below k3 (Nat.le_refl _)).alloc _, Br.new _ _ _ _, below_alloc (below_step HL2.out k3) _⟩
  have HI := hide I
  clear HX42 HX52 HX62 HL2 k3 hG hgs I p0 p1 q0 q1 HZ
  go_wp2
  go_loopw [9] (fun z wr => ∃ i : Nat, i ≤ ra ∧ z = .int .i64 i ∧ RMul w g N w3.heap.size ra ca cb (.slice (some ⟨ba, oa, none⟩) NA cpa) (.slice (some ⟨bb, ob, none⟩) NB cpb) (mulS cb M i 0) wr) (fun z _ => ra - (intOf z).toNat)
  case atStart => exact ⟨0, Nat.zero_le _, rfl, HI.out⟩
  case round =>
    obtain ⟨i, hi, rfl, I⟩ := hrel
    clear HI
    have q0 := I.a.cell0
    by_cases hlt1 : i < ra
    · have HI := hide I
      clear I
      have b0 : (i : Int) < (ra : Int) := by omega
      go_wp2
      go_loopw [10] (fun z wr => ∃ j : Nat, j ≤ cb ∧ z = .int .i64 j ∧ RMul w g N w3.heap.size ra ca cb (.slice (some ⟨ba, oa, none⟩) NA cpa) (.slice (some ⟨bb, ob, none⟩) NB cpb) (mulS cb M i j) wr) (fun z _ => cb - (intOf z).toNat)
      case atStart => exact ⟨0, Nat.zero_le _, rfl, HI.out⟩
      case round =>
        obtain ⟨j, hj, rfl, I⟩ := hrel
        clear HI q0
        have q1 := I.b.cell1
        by_cases hlt2 : j < cb
        · have HI := hide I
          clear I
          have b3 : (j : Int) < (cb : Int) := by omega
          go_wp2
          go_loopw [11, 12] (fun s z wr => ∃ k : Nat, k ≤ ca ∧ z = .int .i64 k ∧ s = .int .i64 (((mm k (mt ca A) (mt cb B) i j).v : Nat) : Int) ∧ RMul w g N w3.heap.size ra ca cb (.slice (some ⟨ba, oa, none⟩) NA cpa) (.slice (some ⟨bb, ob, none⟩) NB cpb) (mulS cb M i j) wr) (fun _ z _ => ca - (intOf z).toNat)
          case atStart => exact ⟨0, Nat.zero_le _, rfl, rfl, HI.out⟩
          case round =>
            obtain ⟨k, hk, rfl, rfl, I⟩ := hrel
            clear HI q1
            by_cases hlt3 : k < ca
            · obtain ⟨x, hx⟩ : ∃ x, x = i * ca + k := ⟨_, rfl⟩
              obtain ⟨y, hy⟩ : ∃ y, y = k * cb + j := ⟨_, rfl⟩
              have hxN : x < NA := by rw [hx]; exact QA.out i k hlt1 hlt3
              have hyN : y < NB := by rw [hy]; exact QB.out k j hlt3 hlt2
              have R1 : Hid (∀ (v u1 u2 : Value) (w' : World), v = .agg #[.int .i64 ra, .int .i64 ca, .slice (some ⟨ba, oa, none⟩) NA cpa] → u1 = .int .i64 i → u2 = .int .i64 k → Below wr.heap.size wr w' → Calls Try.prog 39 #[v, u1, u2] w' fun e w'' => e = .returned (.int .i64 (((A x).v : Nat) : Int)) ∧ Below wr.heap.size wr w'' ∧ w''.cell? ⟨w.heap.size, 0, none⟩ = some (.int .i64 ra) ∧ w''.cell? ⟨w.heap.size, 1, none⟩ = some (.int .i64 ca) ∧ w''.cell? ⟨w.heap.size, 2, none⟩ = some (.slice (some ⟨ba, oa, none⟩) NA cpa) ∧ w''.cell? ⟨w.heap.size + 1, 0, none⟩ = some (.int .i64 ca) ∧ w''.cell? ⟨w.heap.size + 1, 1, none⟩ = some (.int .i64 cb) ∧ w''.cell? ⟨w.heap.size + 1, 2, none⟩ = some (.slice (some ⟨bb, ob, none⟩) NB cpb)) := by
                intro v u1 u2 w' h1 h2 h3 hb
                subst h1 h2 h3
                refine (at_any (HA.out.below (below_step I.gr hb)) hx hxN (by omega) (by omega)).mono ?_
                rintro e w'' ⟨rfl, q⟩
                have I' := I.below (below_step hb q)
                exact ⟨rfl, below_step hb q, I'.a.cell0, I'.a.cell1, I'.a.cell2, I'.b.cell0, I'.b.cell1, I'.b.cell2⟩
              have R2 : Hid (∀ (v u1 u2 : Value) (w' : World), v = .agg #[.int .i64 ca, .int .i64 cb, .slice (some ⟨bb, ob, none⟩) NB cpb] → u1 = .int .i64 k → u2 = .int .i64 j → Below wr.heap.size wr w' → Calls Try.prog 39 #[v, u1, u2] w' fun e w'' => e = .returned (.int .i64 (((B y).v : Nat) : Int)) ∧ Below wr.heap.size wr w'' ∧ w''.cell? ⟨w.heap.size, 0, none⟩ = some (.int .i64 ra) ∧ w''.cell? ⟨w.heap.size, 1, none⟩ = some (.int .i64 ca) ∧ w''.cell? ⟨w.heap.size, 2, none⟩ = some (.slice (some ⟨ba, oa, none⟩) NA cpa) ∧ w''.cell? ⟨w.heap.size + 1, 0, none⟩ = some (.int .i64 ca) ∧ w''.cell? ⟨w.heap.size + 1, 1, none⟩ = some (.int .i64 cb) ∧ w''.cell? ⟨w.heap.size + 1, 2, none⟩ = some (.slice (some ⟨bb, ob, none⟩) NB cpb)) := by
                intro v u1 u2 w' h1 h2 h3 hb
                subst h1 h2 h3
                refine (at_any (HB.out.below (below_step I.gr hb)) hy hyN (by omega) (by omega)).mono ?_
                rintro e w'' ⟨rfl, q⟩
                have I' := I.below (below_step hb q)
                exact ⟨rfl, below_step hb q, I'.a.cell0, I'.a.cell1, I'.a.cell2, I'.b.cell0, I'.b.cell1, I'.b.cell2⟩
              have R3 : Hid (∀ w' : World, Calls Try.prog 38 #[.int .i64 (((A x).v : Nat) : Int), .int .i64 (((B y).v : Nat) : Int)] w' fun e w'' => e = .returned (.int .i64 (((A x * B y).v : Nat) : Int)) ∧ w'' = w') := fun w' => refTimes_any (A x).v (B y).v (A x).lt (B y).lt w'
              have hxx : bits .xor .i64 (((mm k (mt ca A) (mt cb B) i j).v : Nat) : Int) (((A x * B y).v : Nat) : Int) = (((mm (k + 1) (mt ca A) (mt cb B) i j).v : Nat) : Int) := by
                rw [xor_i64 _ _ (Nat.lt_of_lt_of_le (K.lt _) (by decide)) (Nat.lt_of_lt_of_le (K.lt _) (by decide)), hx, hy]
                rfl
              have m0 := I.a.cell0
              have m1 := I.a.cell1
              have m2 := I.a.cell2
              have m3 := I.b.cell0
              have m4 := I.b.cell1
              have m5 := I.b.cell2
              have HI := hide I
              have b4 : (k : Int) < (ca : Int) := by omega
              clear I hx hy
              obtain ⟨s1, hs1⟩ : ∃ s1, s1 = (mm (k + 1) (mt ca A) (mt cb B) i j).v := ⟨_, rfl⟩
              rw [← hs1] at hxx
              have HS1 := hide hs1
              clear hs1
              generalize (mm k (mt ca A) (mt cb B) i j).v = s0 at *
              generalize (A x * B y).v = pr at *
              generalize A x = ax at *
              generalize B y = by' at *
              go_wp2_with fail
              go_region_held3 (fun w'' => w''.cell? ⟨w.heap.size, 0, none⟩ = some (.int .i64 ra) ∧ w''.cell? ⟨w.heap.size, 1, none⟩ = some (.int .i64 ca) ∧ w''.cell? ⟨w.heap.size, 2, none⟩ = some (.slice (some ⟨ba, oa, none⟩) NA cpa) ∧ w''.cell? ⟨w.heap.size + 1, 0, none⟩ = some (.int .i64 ca) ∧ w''.cell? ⟨w.heap.size + 1, 1, none⟩ = some (.int .i64 cb) ∧ w''.cell? ⟨w.heap.size + 1, 2, none⟩ = some (.slice (some ⟨bb, ob, none⟩) NB cpb)) (first | assumption | exact ⟨by assumption, by assumption, by assumption, by assumption, by assumption, by assumption⟩ | exact ⟨m0, m1, m2, m3, m4, m5⟩)
                (first
                  | (go_at_call 39; refine (R1.out _ _ _ _ (by with_reducible rfl) (by with_reducible rfl) (by with_reducible rfl) (by first | assumption | exact (Below.refl _ _).drew)).mono ?_; rintro e wa ⟨rfl, ka, ka1, ka2, ka3, ka4, ka5, ka6⟩)
                  | (go_at_call 39; refine (R2.out _ _ _ _ (by with_reducible rfl) (by with_reducible rfl) (by with_reducible rfl) (by first | assumption | exact (Below.refl _ _).drew)).mono ?_; rintro e wb ⟨rfl, kb, kb1, kb2, kb3, kb4, kb5, kb6⟩)
                  | (go_at_call 38; refine (R3.out _).mono ?_; rintro e wz ⟨rfl, hwz⟩; subst wz))
              all_goals
                clear R1 R2 R3
                go_wp2
                exact ⟨⟨k + 1, by omega, by go_num, by rw [HS1.out], by first | exact HI.out.below kb | exact HI.out.below ka⟩, by simp [intOf]; omega⟩
            · obtain rfl : k = ca := by omega
              obtain ⟨x, hx⟩ : ∃ x, x = i * cb := ⟨_, rfl⟩
              have hxi : (i : Int) * (cb : Int) = (x : Int) := by rw [← Int.natCast_mul, hx]
              have hxN : x + j < N := by rw [hx]; exact QN.out i j hlt1 hlt2
              have c3 := I.G.cell (x + j) hxN
              have z3 := I.G.free (x + j)
              obtain ⟨y, hy⟩ : ∃ y, y = mm k (mt k A) (mt cb B) i j := ⟨_, rfl⟩
              rw [← hy]
              have I2 := (I.set (x + j) hxN y hgs').congr (G' := mulS cb M i (j + 1)) (fun t _ => by rw [hx, hy, ← mulS_step cb M i j t hlt2, HM.out])
              have m1 := I.a.cell1
              have m4 := I.b.cell1
              have m5 := I.p.cell2
              have HI := hide I2
              have b5 : (0 : Int) ≤ (x : Int) + (j : Int) := by omega
              have b6 : (x : Int) + (j : Int) < (N : Int) := by omega
              have b7 : ((x : Int) + (j : Int)).toNat = x + j := by omega
              clear I I2 hx hy
              go_wp2
              exact ⟨⟨j + 1, by omega, by go_num, HI.out⟩, by simp [intOf]; omega⟩
        · obtain rfl : j = cb := by omega
          have HI : Hid (RMul w g N w3.heap.size ra ca j (.slice (some ⟨ba, oa, none⟩) NA cpa) (.slice (some ⟨bb, ob, none⟩) NB cpb) (mulS j M (i + 1) 0) wr) := I.congr (fun t _ => mulS_next j M i t (by omega))
          clear I
          go_wp2
          exact ⟨⟨i + 1, by omega, by go_num, HI.out⟩, by simp [intOf]; omega⟩
    · obtain rfl : i = ra := by omega
      have p0 := I.p.cell0
      have p1 := I.p.cell1
      have p2 := I.p.cell2
      have r0 := I.r.cell0
      have r1 := I.r.cell1
      have r2 := I.r.cell2
      have f2 := I.r.free
      have hne := I.r.ne I.G
      have HI := hide I
      clear I
      go_wp2
      obtain ⟨hX5, g5⟩ := HI.out.r.put (i : Int) (cb : Int) (.slice (some ⟨g, 0, none⟩) N N)
      refine bodyPost_ret (v := .tuple #[.agg #[.int .i64 i, .int .i64 cb, .slice (some ⟨g, 0, none⟩) N N], .int .i64 0]) (by simp [results, Try.results13, go_sem, hX5.cell0, hX5.cell1, hX5.cell2]) rfl ⟨g, rfl, ?_, hgs', below_gb HI.out.gr g5 (by omega) HI.out.gr.size⟩
      exact (HI.out.G.of_block (g5.block g HI.out.G.lt (by simp; exact fun e => hne e.symm))).congr (fun t ht => QP.out t ht)
end Go.Proofs.Ythedeggggbdibaa

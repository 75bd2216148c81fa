/-
  The contract of Mul.
-/
import Derived.Test.YthedeggggbdibaaMul
namespace Go.Proofs.Ythedeggggbdibaa
open Go.RowKit Go.Lib

theorem Bx.alloc {w : World} {b : Nat} {r c : Int} {v : Value} (h : Bx w b r c v) (o : Obj) : Bx (w.alloc o) b r c v := h.below ((Below.refl _ _).alloc (Nat.le_refl _) o) (Nat.le_refl _)
theorem Bx.new (w : World) (r c : Int) (v : Value) : Bx (w.alloc (.cells #[.int .i64 r, .int .i64 c, v] 24)) w.heap.size r c v := heap_alloc_new w _
theorem KB.alloc {w : World} {g n : Nat} {G : Nat → K} (h : KB w g n G) (o : Obj) : KB (w.alloc o) g n G := h.below ((Below.refl _ _).alloc (Nat.le_refl _) o) (Nat.le_refl _)
theorem SP.alloc {w : World} {sb f : Nat} (h : SP w sb f) (o : Obj) : SP (w.alloc o) sb f := h.below ((Below.refl _ _).alloc (Nat.le_refl _) o) (Nat.le_refl _)
theorem NX.below {w w' : World} {f n : Nat} {v : Value} {Z : Nat → Int} (h : NX w f v n Z) (hb : Below w.heap.size w w') : NX w' f v n Z := h.grown (gb_below hb (some f))
theorem NX.alloc {w : World} {f n : Nat} {v : Value} {Z : Nat → Int} (h : NX w f v n Z) (o : Obj) : NX (w.alloc o) f v n Z := h.below ((Below.refl _ _).alloc (Nat.le_refl _) o)
theorem NX.at {w : World} {f n : Nat} {v : Value} {Z : Nat → Int} (h : NX w f v n Z) (hn : n ≠ 0) : ∃ bl off c, v = .slice (some ⟨bl, off, none⟩) n c ∧ n ≤ c ∧ bl < w.heap.size ∧ bl ≠ f := by
  obtain ⟨a, c, rfl, hc, h | ⟨bl, off, rfl, h1, h2, _⟩⟩ := h
  · exact absurd h hn
  · exact ⟨bl, off, c, rfl, hc, h1, h2⟩
theorem NX.cell_at {w : World} {f n bl off c : Nat} {Z : Nat → Int} (h : NX w f (.slice (some ⟨bl, off, none⟩) n c) n Z) (j : Nat) (hj : j < n) : w.cell? ⟨bl, off + j, none⟩ = some (.int .i64 (Z j)) := by
  obtain ⟨a, c', e, _, h⟩ := h
  simp only [Value.slice.injEq, true_and] at e
  obtain ⟨rfl, rfl⟩ := e
  rcases h with h | ⟨bl', off', ha, _, _, hc⟩
  · omega
  · simp only [Option.some.injEq, Addr.mk.injEq, and_true] at ha
    obtain ⟨rfl, rfl⟩ := ha
    exact hc j hj
theorem up_K (n : Nat) (A : Nat → K) : upB 255 (fun k => (((A k).v : Nat) : Int)) n = true := by
  induction n with
  | zero => rfl
  | succ n ih =>
    have := (A n).lt
    rw [upB_succ, ih, Bool.and_true]
    simp; omega
theorem chk_ok {r c : Nat} (h1 : 1 ≤ r) (h2 : r ≤ 255) (h3 : 1 ≤ c) (h4 : c ≤ 255) (A : Nat → K) : chk r c (r * c) (fun k => (((A k).v : Nat) : Int)) = 0 := by
  rw [chk, if_neg (by rw [isSd_nat h1 h2]; simp), if_neg (by rw [isSd_nat h3 h4]; simp), if_neg (by simp), if_neg (by rw [up_K]; simp)]

/-- The cells of a matrix' three parts. -/
def MC (w : World) (b : Nat) (r c : Int) (v : Value) : Prop := w.cell? ⟨b, 0, none⟩ = some (.int .i64 r) ∧ w.cell? ⟨b, 1, none⟩ = some (.int .i64 c) ∧ w.cell? ⟨b, 2, none⟩ = some v
theorem Bx.mc {w : World} {b : Nat} {r c : Int} {v : Value} (h : Bx w b r c v) : MC w b r c v := ⟨h.cell0, h.cell1, h.cell2⟩

/-- What the loops of Mul keep. -/
structure MulI (w : World) (sb f g N pb : Nat) (ra ca cb : Nat) (va vb : Value) (G : Nat → K) (wr : World) : Prop where
  S : SP wr sb f
  G : KB wr g N G
  a : Bx wr w.heap.size ra ca va
  b : Bx wr (w.heap.size + 1) ca cb vb
  r : Bx wr (w.heap.size + 2) 0 0 (.slice none 0 0)
  p : Bx wr pb ra cb (.slice (some ⟨g, 0, none⟩) N N)
  gr : w.grownBy wr (some f)

set_option maxRecDepth 100000 in
set_option maxHeartbeats 1600000 in
theorem mul_mat {w : World} {sb f ra ca cb : Nat} {va vb : Value} {A B : Nat → K} (hS : SP w sb f) (a1 : 1 ≤ ra) (a2 : ra ≤ 255) (c1 : 1 ≤ ca) (c2 : ca ≤ 255) (b1 : 1 ≤ cb) (b2 : cb ≤ 255)
    (hA : NX w f va (ra * ca) (fun k => (((A k).v : Nat) : Int))) (hB : NX w f vb (ca * cb) (fun k => (((B k).v : Nat) : Int))) :
    Calls Try.prog 12 #[.pointer (some ⟨sb, 0, none⟩), .agg #[.int .i64 ra, .int .i64 ca, va], .agg #[.int .i64 ca, .int .i64 cb, vb]] w fun e w' =>
      ∃ g, e = .returned (.tuple #[.agg #[.int .i64 ra, .int .i64 cb, .slice (some ⟨g, 0, none⟩) (ra * cb) (ra * cb)], .int .i64 0]) ∧ KB w' g (ra * cb) (flat cb (mm ca (mt ca A) (mt cb B))) ∧ w.heap.size ≤ g ∧ SP w' sb f ∧ w.grownBy w' (some f) := by
  have hNN : ra * cb ≤ 255 * 255 := Nat.mul_le_mul a2 b2
  have hNA : ra * ca ≤ 255 * 255 := Nat.mul_le_mul a2 c2
  have hNB : ca * cb ≤ 255 * 255 := Nat.mul_le_mul c2 b2
  have hA0 : ra * ca ≠ 0 := Nat.mul_ne_zero (by omega) (by omega)
  have hB0 : ca * cb ≠ 0 := Nat.mul_ne_zero (by omega) (by omega)
  obtain ⟨ba, oa, cpa, rfl, ha3, ha4, ha5⟩ := hA.at hA0
  obtain ⟨bb, ob, cpb, rfl, hb3, hb4, hb5⟩ := hB.at hB0
  have HZ : Hid _ := fun w => zeros_any w ra cb a2 b2
  have EA := chk_ok a1 a2 c1 c2 A
  have EB := chk_ok c1 c2 b1 b2 B
  have QA : Hid (∀ i, i < ra → (i + 1) * ca ≤ ra * ca) := fun i hi => row_in hi
  have QB : Hid (∀ i, i < ca → (i + 1) * cb ≤ ca * cb) := fun i hi => row_in hi
  have QN : Hid (∀ i, i < ra → (i + 1) * cb ≤ ra * cb) := fun i hi => row_in hi
  have QP : Hid (∀ k, k < ra * cb → prodF ca cb A B ra 0 k = flat cb (mm ca (mt ca A) (mt cb B)) k) := fun k hk => prodF_all ca cb ra A B k hk
  generalize ra * cb = N at *
  generalize ra * ca = NA at *
  generalize ca * cb = NB at *
  have hlt := hS.lt
  have hltf := hS.ltf
  -- the three boxes
  have S3 := ((hS.alloc (.cells #[.int .i64 ra, .int .i64 ca, .slice (some ⟨ba, oa, none⟩) NA cpa] 24)).alloc (.cells #[.int .i64 ca, .int .i64 cb, .slice (some ⟨bb, ob, none⟩) NB cpb] 24)).alloc (.cells #[.int .i64 0, .int .i64 0, .slice none 0 0] 24)
  have A3 := ((hA.alloc (.cells #[.int .i64 ra, .int .i64 ca, .slice (some ⟨ba, oa, none⟩) NA cpa] 24)).alloc (.cells #[.int .i64 ca, .int .i64 cb, .slice (some ⟨bb, ob, none⟩) NB cpb] 24)).alloc (.cells #[.int .i64 0, .int .i64 0, .slice none 0 0] 24)
  have B3 := ((hB.alloc (.cells #[.int .i64 ra, .int .i64 ca, .slice (some ⟨ba, oa, none⟩) NA cpa] 24)).alloc (.cells #[.int .i64 ca, .int .i64 cb, .slice (some ⟨bb, ob, none⟩) NB cpb] 24)).alloc (.cells #[.int .i64 0, .int .i64 0, .slice none 0 0] 24)
  have X4 := ((Bx.new w ra ca (.slice (some ⟨ba, oa, none⟩) NA cpa)).alloc (.cells #[.int .i64 ca, .int .i64 cb, .slice (some ⟨bb, ob, none⟩) NB cpb] 24)).alloc (.cells #[.int .i64 0, .int .i64 0, .slice none 0 0] 24)
  have X5 := (Bx.new (w.alloc (.cells #[.int .i64 ra, .int .i64 ca, .slice (some ⟨ba, oa, none⟩) NA cpa] 24)) ca cb (.slice (some ⟨bb, ob, none⟩) NB cpb)).alloc (.cells #[.int .i64 0, .int .i64 0, .slice none 0 0] 24)
  have X6 := Bx.new ((w.alloc (.cells #[.int .i64 ra, .int .i64 ca, .slice (some ⟨ba, oa, none⟩) NA cpa] 24)).alloc (.cells #[.int .i64 ca, .int .i64 cb, .slice (some ⟨bb, ob, none⟩) NB cpb] 24)) 0 0 (.slice none 0 0)
  have L3 := below_alloc (below_alloc (below_alloc (Below.refl w.heap.size w) (.cells #[.int .i64 ra, .int .i64 ca, .slice (some ⟨ba, oa, none⟩) NA cpa] 24)) (.cells #[.int .i64 ca, .int .i64 cb, .slice (some ⟨bb, ob, none⟩) NB cpb] 24)) (.cells #[.int .i64 0, .int .i64 0, .slice none 0 0] 24)
  rw [show (w.alloc (.cells #[.int .i64 ra, .int .i64 ca, .slice (some ⟨ba, oa, none⟩) NA cpa] 24)).heap.size = w.heap.size + 1 by simp] at X5
  rw [show ((w.alloc (.cells #[.int .i64 ra, .int .i64 ca, .slice (some ⟨ba, oa, none⟩) NA cpa] 24)).alloc (.cells #[.int .i64 ca, .int .i64 cb, .slice (some ⟨bb, ob, none⟩) NB cpb] 24)).heap.size = w.heap.size + 2 by simp] at X6
  have HS3 := hide S3
  have HA3 := hide A3
  have HB3 := hide B3
  have HX4 := hide X4
  have HX5 := hide X5
  have HX6 := hide X6
  have HL3 := hide L3
  have HA := hide hA
  have HB := hide hB
  clear S3 A3 B3 X4 X5 X6 L3 hS hA hB
  go_enter Try.func12, Try.ntmps12
  go_wp2_with fail
  refine (check_any HA3.out (by omega)).mono ?_
  rintro e w1 ⟨rfl, k1⟩
  rw [EA]
  have S1 := HS3.out.below k1 (Nat.le_refl _)
  have B1 := HB3.out.below k1
  have X41 := HX4.out.below k1 (Nat.le_refl _)
  have X51 := HX5.out.below k1 (Nat.le_refl _)
  have X61 := HX6.out.below k1 (Nat.le_refl _)
  have L1 := below_step HL3.out k1
  clear HS3 HA3 HB3 HX4 HX5 HX6 HL3 k1 EA
  have HB1 := hide B1
  have p0 := X51.cell0
  have p1 := X51.cell1
  have p2 := X51.cell2
  have HS1 := hide S1
  have HX41 := hide X41
  have HX51 := hide X51
  have HX61 := hide X61
  have HL1 := hide L1
  clear B1 S1 X41 X51 X61 L1
  go_wp2_with fail
  refine (check_any HB1.out (by omega)).mono ?_
  rintro e w2 ⟨rfl, k2⟩
  rw [EB]
  have S2 := HS1.out.below k2 (Nat.le_refl _)
  have X42 := HX41.out.below k2 (Nat.le_refl _)
  have X52 := HX51.out.below k2 (Nat.le_refl _)
  have X62 := HX61.out.below k2 (Nat.le_refl _)
  have L2 := below_step HL1.out k2
  clear HS1 HB1 HX41 HX51 HX61 HL1 k2 EB p0 p1 p2
  have p0 := X52.cell0
  have p1 := X52.cell1
  have p2 := X52.cell2
  have q0 := X42.cell0
  have q1 := X42.cell1
  have q2 := X42.cell2
  have HS2 := hide S2
  have HX42 := hide X42
  have HX52 := hide X52
  have HX62 := hide X62
  have HL2 := hide L2
  clear S2 X42 X52 X62 L2
  go_wp2_with fail
  refine Calls.mono (HZ.out _) ?_
  rintro e w3 ⟨g, rfl, hG, hgs, k3⟩
  have hgs' : w.heap.size ≤ g := Nat.le_trans HL2.out.size hgs
  have L3 := below_step HL2.out k3
  have I : MulI w sb f g N w3.heap.size ra ca cb (.slice (some ⟨ba, oa, none⟩) NA cpa) (.slice (some ⟨bb, ob, none⟩) NB cpb) (prodF ca cb A B 0 0) (w3.alloc (.cells #[.int .i64 ra, .int .i64 cb, .slice (some ⟨g, 0, none⟩) N N] 24)) :=
    ⟨(HS2.out.below k3 (Nat.le_refl _)).alloc _, by rw [prodF_zero]; exact hG.alloc _, (HX42.out.below k3 (Nat.le_refl _)).alloc _, (HX52.out.below k3 (Nat.le_refl _)).alloc _, (HX62.out.below k3 (Nat.le_refl _)).alloc _, Bx.new _ _ _ _, gb_below (below_alloc L3 _) _⟩
  have f0 : Hid (w.heap.size ≤ w3.heap.size) := L3.size
  have r0 := I.a.cell0
  have HI := hide I
  clear HS2 HX42 HX52 HX62 HL2 k3 L3 hG hgs I p0 p1 p2 q0 q1 q2
  go_wp2
  go_loopw [39] (fun i wr => ∃ j : Nat, j ≤ ra ∧ i = .int .i64 j ∧ MulI w sb f g N w3.heap.size ra ca cb (.slice (some ⟨ba, oa, none⟩) NA cpa) (.slice (some ⟨bb, ob, none⟩) NB cpb) (prodF ca cb A B j 0) wr) (fun i _ => ra - (intOf i).toNat)
  case atStart => exact ⟨0, Nat.zero_le _, rfl, HI.out⟩
  case round =>
    obtain ⟨i, hi, rfl, I⟩ := hrel
    clear HI r0
    by_cases hlt1 : i < ra
    · obtain ⟨x, hx⟩ : ∃ x, x = oa + i * ca := ⟨_, rfl⟩
      have HX := hide hx
      have HR : Hid _ := fun w => row_at w i (r := ra) (c := ca) (b := ba) (k := oa) (cp := cpa) (n := NA) (x := x) hx (by omega) c1 c2 (QA.out i hlt1) ha3
      have p0 := I.a.cell0
      have p1 := I.a.cell1
      have p2 := I.a.cell2
      have HI := hide I
      clear I hx
      have b0 : (i : Int) < (ra : Int) := by omega
      go_wp2_with fail
      refine Calls.mono (HR.out _) ?_
      rintro e w4 ⟨rfl, k4⟩
      have I4 : MulI w sb f g N w3.heap.size ra ca cb (.slice (some ⟨ba, oa, none⟩) NA cpa) (.slice (some ⟨bb, ob, none⟩) NB cpb) (prodF ca cb A B i 0) w4 :=
        ⟨HI.out.S.below k4 (Nat.le_refl _), HI.out.G.below k4 (Nat.le_refl _), HI.out.a.below k4 (Nat.le_refl _), HI.out.b.below k4 (Nat.le_refl _), HI.out.r.below k4 (Nat.le_refl _), HI.out.p.below k4 (Nat.le_refl _), gb_trans HI.out.gr (gb_below k4 _)⟩
      have HI4 := hide I4
      clear I4 HI k4 HR p0 p1 p2
      go_wp2
      go_loopw [46] (fun z wr => ∃ j : Nat, j ≤ ca ∧ z = .int .i64 j ∧ MulI w sb f g N w3.heap.size ra ca cb (.slice (some ⟨ba, oa, none⟩) NA cpa) (.slice (some ⟨bb, ob, none⟩) NB cpb) (prodF ca cb A B i j) wr) (fun z _ => ca - (intOf z).toNat)
      case atStart => exact ⟨0, Nat.zero_le _, rfl, HI4.out⟩
      case round =>
        obtain ⟨j, hj, rfl, I⟩ := hrel
        clear HI4
        by_cases hlt2 : j < ca
        · have hij : i * ca + j < NA := Nat.lt_of_lt_of_le (by rw [Nat.add_mul, Nat.one_mul]; omega) (QA.out i hlt1)
          have cA := (HA.out.grown I.gr).cell_at (i * ca + j) hij
          obtain ⟨y, hy⟩ : ∃ y, y = i * cb := ⟨_, rfl⟩
          obtain ⟨z, hz⟩ : ∃ z, z = ob + j * cb := ⟨_, rfl⟩
          rw [show oa + (i * ca + j) = x + j by rw [HX.out]; omega] at cA
          have R1 : Hid (∀ (v u : Value) (w' : World), v = .agg #[.int .i64 ra, .int .i64 cb, .slice (some ⟨g, 0, none⟩) N N] → u = .int .i64 i → Below wr.heap.size wr w' → Calls Try.prog 35 #[v, u] w' fun e w'' => e = .returned (.slice (some ⟨g, y, none⟩) cb cb) ∧ Below wr.heap.size wr w'' ∧ MC w'' w3.heap.size ra cb (.slice (some ⟨g, 0, none⟩) N N) ∧ MC w'' (w.heap.size + 1) ca cb (.slice (some ⟨bb, ob, none⟩) NB cpb)) := by
            intro v u w' hv hu hb
            subst hv hu
            refine (row_at w' i (x := y) (by omega) (by omega) b1 b2 (QN.out i hlt1) (Nat.le_refl _)).mono ?_
            rintro e w'' ⟨rfl, k⟩
            have k' := below_step hb k
            exact ⟨rfl, k', (I.p.below k' (Nat.le_refl _)).mc, (I.b.below k' (Nat.le_refl _)).mc⟩
          have R2 : Hid (∀ (v u : Value) (w' : World), v = .agg #[.int .i64 ca, .int .i64 cb, .slice (some ⟨bb, ob, none⟩) NB cpb] → u = .int .i64 j → Below wr.heap.size wr w' → Calls Try.prog 35 #[v, u] w' fun e w'' => e = .returned (.slice (some ⟨bb, z, none⟩) cb cb) ∧ Below wr.heap.size wr w'' ∧ MC w'' w3.heap.size ra cb (.slice (some ⟨g, 0, none⟩) N N) ∧ MC w'' (w.heap.size + 1) ca cb (.slice (some ⟨bb, ob, none⟩) NB cpb)) := by
            intro v u w' hv hu hb
            subst hv hu
            refine (row_at w' j hz (by omega) b1 b2 (QB.out j hlt2) hb3).mono ?_
            rintro e w'' ⟨rfl, k⟩
            have k' := below_step hb k
            exact ⟨rfl, k', (I.p.below k' (Nat.le_refl _)).mc, (I.b.below k' (Nat.le_refl _)).mc⟩
          have R3 : Hid (∀ (w' : World), Below wr.heap.size wr w' → Calls Try.prog 36 #[.pointer (some ⟨sb, 0, none⟩), .slice (some ⟨g, y, none⟩) cb cb, .slice (some ⟨bb, z, none⟩) cb cb, .int .i64 (((A (i * ca + j)).v : Nat) : Int)] w' fun e w'' => e = .returned (.tuple #[]) ∧ MulI w sb f g N w3.heap.size ra ca cb (.slice (some ⟨ba, oa, none⟩) NA cpa) (.slice (some ⟨bb, ob, none⟩) NB cpb) (prodF ca cb A B i (j + 1)) w'' ∧ MC w'' w3.heap.size ra cb (.slice (some ⟨g, 0, none⟩) N N) ∧ MC w'' (w.heap.size + 1) ca cb (.slice (some ⟨bb, ob, none⟩) NB cpb)) := by
            intro w' hb
            have hG' := I.G.below hb (Nat.le_refl _)
            have hS' := I.S.below hb (Nat.le_refl _)
            have gr' := gb_trans I.gr (gb_below hb _)
            refine (addTimes_any (G := prodF ca cb A B i j) (H := fun l => B (j * cb + l)) hS' hG' (fun l hl => ?_) (Nat.lt_of_lt_of_le hb4 gr'.size) hb5 (by omega) ?_ (by omega) _).mono ?_
            · have := (HB.out.grown gr').cell_at (j * cb + l) (Nat.lt_of_lt_of_le (by rw [Nat.add_mul, Nat.one_mul]; omega) (QB.out j hlt2))
              rw [show z + l = ob + (j * cb + l) by omega]
              exact this
            · have := QN.out i hlt1
              rw [Nat.add_mul, Nat.one_mul] at this
              omega
            rintro e w'' ⟨rfl, s1, s2, s3⟩
            have M : MulI w sb f g N w3.heap.size ra ca cb (.slice (some ⟨ba, oa, none⟩) NA cpa) (.slice (some ⟨bb, ob, none⟩) NB cpb) (prodF ca cb A B i (j + 1)) w'' :=
              ⟨s1, s2.congr (fun k _ => by rw [adds, hy]; exact prodF_step ca cb A B i j k (by omega)), (I.a.below hb (Nat.le_refl _)).two s3 (by omega) (I.a.ne I.G), (I.b.below hb (Nat.le_refl _)).two s3 (by omega) (I.b.ne I.G), (I.r.below hb (Nat.le_refl _)).two s3 (by omega) (I.r.ne I.G), (I.p.below hb (Nat.le_refl _)).two s3 (by have := f0.out; omega) (I.p.ne I.G), s3.grown gr' hgs'⟩
            exact ⟨rfl, M, M.p.mc, M.b.mc⟩
          have M0 := I.p.mc
          have M1 := I.b.mc
          have HI := hide I
          have HY := hide hy
          have HZ2 := hide hz
          clear I hy hz hij
          have b0 : (0 : Int) ≤ (j : Int) := by omega
          have b1' : (j : Int) < (ca : Int) := by omega
          generalize A (i * ca + j) = aij at *
          go_wp2_with fail
          go_region_held3 (fun w' => w'.cell? ⟨w3.heap.size, 0, none⟩ = some (.int .i64 ra) ∧ w'.cell? ⟨w3.heap.size, 1, none⟩ = some (.int .i64 cb) ∧ w'.cell? ⟨w3.heap.size, 2, none⟩ = some (.slice (some ⟨g, 0, none⟩) N N) ∧ w'.cell? ⟨w.heap.size + 1, 0, none⟩ = some (.int .i64 ca) ∧ w'.cell? ⟨w.heap.size + 1, 1, none⟩ = some (.int .i64 cb) ∧ w'.cell? ⟨w.heap.size + 1, 2, none⟩ = some (.slice (some ⟨bb, ob, none⟩) NB cpb)) (first | assumption | exact ⟨by assumption, by assumption, by assumption, by assumption, by assumption, by assumption⟩ | exact ⟨M0.1, M0.2.1, M0.2.2, M1.1, M1.2.1, M1.2.2⟩)
            (first
              | (go_at_call 35; refine (R1.out _ _ _ (by with_reducible rfl) (by with_reducible rfl) (by first | assumption | exact (Below.refl _ _).drew)).mono ?_; rintro e wa ⟨rfl, ka, ⟨ka1, ka2, ka3⟩, ka4, ka5, ka6⟩)
              | (go_at_call 35; refine (R2.out _ _ _ (by with_reducible rfl) (by with_reducible rfl) (by first | assumption | exact (Below.refl _ _).drew)).mono ?_; rintro e wb ⟨rfl, kb, ⟨kb1, kb2, kb3⟩, kb4, kb5, kb6⟩)
              | (go_at_call 36; refine (R3.out _ (by assumption)).mono ?_; rintro e wc ⟨rfl, kM, ⟨kc1, kc2, kc3⟩, kc4, kc5, kc6⟩))
          all_goals
            clear R1 R2 R3
            go_wp2
            exact ⟨⟨j + 1, by omega, by go_num, kM⟩, by simp [intOf]; omega⟩
        · obtain rfl : j = ca := by omega
          have HI := hide I
          clear I
          go_wp2
          exact ⟨⟨i + 1, by omega, by go_num, by rw [← prodF_next]; exact HI.out⟩, by simp [intOf]; omega⟩
    · obtain rfl : i = ra := by omega
      have p0 := I.p.cell0
      have p1 := I.p.cell1
      have p2 := I.p.cell2
      have q0 := I.r.cell0
      have q1 := I.r.cell1
      have q2 := I.r.cell2
      have f2 := I.r.free
      have hne := I.r.ne I.G
      have HI := hide I
      clear I
      go_wp2
      obtain ⟨hX5, g5⟩ := HI.out.r.put (i : Int) (cb : Int) (.slice (some ⟨g, 0, none⟩) N N)
      refine bodyPost_ret (v := .tuple #[.agg #[.int .i64 i, .int .i64 cb, .slice (some ⟨g, 0, none⟩) N N], .int .i64 0]) (by simp [results, Try.results12, go_sem, hX5.cell0, hX5.cell1, hX5.cell2]) rfl ⟨g, rfl, ?_, hgs', HI.out.S.set HI.out.r (by decide) (by decide) (by decide) g5, gb_new HI.out.gr g5 (by omega)⟩
      exact (HI.out.G.of_block (g5.block g HI.out.G.lt (by simp; exact fun e => hne e.symm))).congr (fun k hk => QP.out k hk)
end Go.Proofs.Ythedeggggbdibaa

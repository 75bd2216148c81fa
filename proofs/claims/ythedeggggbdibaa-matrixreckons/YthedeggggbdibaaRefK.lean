/-
  The contract of the document's own Turn.
-/
import Derived.Test.YthedeggggbdibaaRefJ
import Derived.Test.YthedeggggbdibaaTurn
namespace Go.Proofs.Ythedeggggbdibaa
open Go.RowKit Go.Lib

/-- A matrix that is being made, its box, and the boxes of what is handed in and out. -/
structure OI (w : World) (g N pb r c pr pc : Nat) (va : Value) (G : Nat → K) (wr : World) : Prop where
  G : KB wr g N G
  a : Br wr w.heap.size r c va
  z : Br wr (w.heap.size + 1) 0 0 (.slice none 0 0)
  p : Br wr pb pr pc (.slice (some ⟨g, 0, none⟩) N N)
  gr : Below w.heap.size w wr
section
variable {w : World} {g N pb r c pr pc : Nat} {va : Value} {G G' : Nat → K} {wr w' : World}
theorem OI.below (h : OI w g N pb r c pr pc va G wr) (hb : Below wr.heap.size wr w') : OI w g N pb r c pr pc va G w' :=
  ⟨h.G.below hb (Nat.le_refl _), h.a.below hb (Nat.le_refl _), h.z.below hb (Nat.le_refl _), h.p.below hb (Nat.le_refl _), below_step h.gr hb⟩
theorem OI.set (h : OI w g N pb r c pr pc va G wr) (i : Nat) (hi : i < N) (x : K) (hg : w.heap.size ≤ g) : OI w g N pb r c pr pc va (fun k => if k = i then x else G k) (wr.setCell ⟨g, i, none⟩ (.int .i64 ((x.v : Nat) : Int))) := by
  have gs := gb_set wr g i (.int .i64 ((x.v : Nat) : Int))
  exact ⟨h.G.set i hi x, h.a.gb gs (h.a.ne h.G), h.z.gb gs (h.z.ne h.G), h.p.gb gs (h.p.ne h.G), below_gb h.gr gs hg h.gr.size⟩
theorem OI.congr (h : OI w g N pb r c pr pc va G wr) (e : ∀ t, t < N → G t = G' t) : OI w g N pb r c pr pc va G' wr := ⟨h.G.congr e, h.a, h.z, h.p, h.gr⟩
end

set_option maxRecDepth 100000 in
set_option maxHeartbeats 1600000 in
theorem refTurn_ok {w : World} {f r c : Nat} {va : Value} {A : Nat → K} (a1 : 1 ≤ r) (a2 : r ≤ 255) (c1 : 1 ≤ c) (c2 : c ≤ 255)
    (hA : NX w f va (r * c) (fun t => (((A t).v : Nat) : Int))) :
    Calls Try.prog 22 #[.agg #[.int .i64 r, .int .i64 c, va]] w fun e w' =>
      ∃ g, e = .returned (.tuple #[.agg #[.int .i64 c, .int .i64 r, .slice (some ⟨g, 0, none⟩) (c * r) (c * r)], .int .i64 0]) ∧ KB w' g (c * r) (flat r (fun i j => mt c A j i)) ∧ w.heap.size ≤ g ∧ Below w.heap.size w w' := by
  have hNA : r * c ≤ 255 * 255 := Nat.mul_le_mul a2 c2
  have hNN : c * r ≤ 255 * 255 := Nat.mul_le_mul c2 a2
  have hA0 : r * c ≠ 0 := Nat.mul_ne_zero (by omega) (by omega)
  obtain ⟨ba, oa, cpa, rfl, ha3, ha4, ha5⟩ := hA.at hA0
  have EA := chk_ok a1 a2 c1 c2 A
  have HZ : Hid _ := fun w => refzero_any w c r c2 a2
  have QA : Hid (∀ i j, i < r → j < c → i * c + j < r * c) := fun i j hi hj => at_lt hi hj
  have QN : Hid (∀ i j, i < c → j < r → i * r + j < c * r) := fun i j hi hj => at_lt hi hj
  have QX : Hid (∀ i t, t < c * r → trS r c A i c t = trS r c A (i + 1) 0 t) := fun i t ht => trS_next r c A i t ht
  generalize r * c = NA at *
  generalize c * r = N at *
  obtain ⟨oA, hoA⟩ : ∃ o, o = Obj.cells #[.int .i64 r, .int .i64 c, (.slice (some ⟨ba, oa, none⟩) NA cpa)] 29 := ⟨_, rfl⟩
  obtain ⟨oR, hoR⟩ : ∃ o, o = Obj.cells #[.int .i64 0, .int .i64 0, .slice none 0 0] 29 := ⟨_, rfl⟩
  have L2 := below_alloc (below_alloc (Below.refl w.heap.size w) oA) oR
  have A2 := (hA.alloc oA).alloc oR
  have X1 := (show Br (w.alloc oA) w.heap.size r c (.slice (some ⟨ba, oa, none⟩) NA cpa) by rw [hoA]; exact Br.new _ _ _ _).alloc oR
  have X2 := show Br ((w.alloc oA).alloc oR) (w.alloc oA).heap.size 0 0 (.slice none 0 0) by rw [hoR]; exact Br.new _ _ _ _
  rw [show (w.alloc oA).heap.size = w.heap.size + 1 by simp] at X2
  rw [hoA, hoR] at L2 A2 X1 X2
  have HA1 := hide A2
  have HX1 := hide X1
  have HX2 := hide X2
  have HL1 := hide L2
  have HA := hide hA
  clear A2 X1 X2 L2 hA hoA hoR
  go_enter Try.func22, Try.ntmps22
  go_wp2_with fail
  refine (refCheck_any HA1.out (by omega)).mono ?_
  rintro e w1 ⟨rfl, k1⟩
  rw [EA]
  have X1 := HX1.out.below k1 (Nat.le_refl _)
  have X2 := HX2.out.below k1 (Nat.le_refl _)
  have L1 := below_step HL1.out k1
  have m0 := X1.cell0
  have m1 := X1.cell1
  have m2 := X1.cell2
  clear HX1 HL1 HA1 HX2 k1
  have HX1 := hide X1
  have HX2 := hide X2
  have HL1 := hide L1
  clear X1 X2 L1
  go_wp2_with fail
  refine Calls.mono (HZ.out _) ?_
  rintro e w3 ⟨g, rfl, hG, hgs, k3⟩
  have hgs' : w.heap.size ≤ g := Nat.le_trans HL1.out.size hgs
  have I : OI w g N w3.heap.size r c c r (.slice (some ⟨ba, oa, none⟩) NA cpa) (trS r c A 0 0) (w3.alloc (.cells #[.int .i64 c, .int .i64 r, .slice (some ⟨g, 0, none⟩) N N] 29)) :=
    ⟨(hG.congr (fun t _ => by rw [trS, if_neg (fun h => by rcases h with h | h; exact Nat.not_lt_zero _ h; exact Nat.not_lt_zero _ h.2)])).alloc _, (HX1.out.below k3 (Nat.le_refl _)).alloc _, (HX2.out.below k3 (Nat.le_refl _)).alloc _, Br.new _ _ _ _, below_alloc (below_step HL1.out k3) _⟩
  have HI := hide I
  clear HX1 HX2 HL1 k3 hG hgs I m0 m1 m2 HZ
  go_wp2
  go_loopw [6] (fun z wr => ∃ i : Nat, i ≤ r ∧ z = .int .i64 i ∧ OI w g N w3.heap.size r c c r (.slice (some ⟨ba, oa, none⟩) NA cpa) (trS r c A i 0) wr) (fun z _ => r - (intOf z).toNat)
  case atStart => exact ⟨0, Nat.zero_le _, rfl, HI.out⟩
  case round =>
    obtain ⟨i, hi, rfl, I⟩ := hrel
    clear HI
    have m0 := I.a.cell0
    by_cases hlt1 : i < r
    · have HI := hide I
      clear I
      have b0 : (i : Int) < (r : Int) := by omega
      go_wp2
      go_loopw [7] (fun z wr => ∃ j : Nat, j ≤ c ∧ z = .int .i64 j ∧ OI w g N w3.heap.size r c c r (.slice (some ⟨ba, oa, none⟩) NA cpa) (trS r c A i j) wr) (fun z _ => c - (intOf z).toNat)
      case atStart => exact ⟨0, Nat.zero_le _, rfl, HI.out⟩
      case round =>
        obtain ⟨j, hj, rfl, I⟩ := hrel
        clear HI m0
        have m0 := I.a.cell0
        have m1 := I.a.cell1
        have m2 := I.a.cell2
        by_cases hlt2 : j < c
        · have m3 := I.p.cell2
          obtain ⟨x, hx⟩ : ∃ x, x = j * r := ⟨_, rfl⟩
          have hxi : (j : Int) * (r : Int) = (x : Int) := by rw [← Int.natCast_mul, hx]
          have hxN : x + i < N := by rw [hx]; exact QN.out j i hlt2 hlt1
          obtain ⟨y, hy⟩ : ∃ y, y = A (i * c + j) := ⟨_, rfl⟩
          obtain ⟨ov, hov⟩ : ∃ ov, ov = Value.int .i64 (((trS r c A i j (x + i)).v : Nat) : Int) := ⟨_, rfl⟩
          have R1 : Hid (∀ (v u1 u2 : Value) (w' : World), v = .agg #[.int .i64 r, .int .i64 c, (.slice (some ⟨ba, oa, none⟩) NA cpa)] → u1 = .int .i64 i → u2 = .int .i64 j → Below wr.heap.size wr w' → Calls Try.prog 39 #[v, u1, u2] w' fun e w'' => e = .returned (.int .i64 ((y.v : Nat) : Int)) ∧ Below wr.heap.size wr w'' ∧ ((w''.cell? ⟨w.heap.size, 0, none⟩ = some (.int .i64 r) ∧ w''.cell? ⟨w.heap.size, 1, none⟩ = some (.int .i64 c) ∧ w''.cell? ⟨w.heap.size, 2, none⟩ = some (.slice (some ⟨ba, oa, none⟩) NA cpa)) ∧ w''.cell? ⟨w3.heap.size, 2, none⟩ = some (.slice (some ⟨g, 0, none⟩) N N)) ∧ w''.cell? ⟨g, x + i, none⟩ = some ov ∧ w''.frozen? ⟨g, x + i, none⟩ = false) := by
            intro v u1 u2 w' h1 h2 h3 hb
            subst h1 h2 h3
            refine (at_any (r := (r : Int)) (c := c) (i := i) (j := j) (HA.out.below (below_step I.gr hb)) rfl (QA.out i j hlt1 hlt2) (by have := QA.out i j hlt1 hlt2; omega) (by omega)).mono ?_
            rintro e w'' ⟨rfl, q⟩
            have I' := I.below (below_step hb q)
            exact ⟨by rw [hy], below_step hb q, ⟨I'.a.mc, I'.p.cell2⟩, by rw [I'.G.cell _ hxN, hov], I'.G.free _⟩
          have FIN : Hid (∀ w', Below wr.heap.size wr w' → OI w g N w3.heap.size r c c r (.slice (some ⟨ba, oa, none⟩) NA cpa) (trS r c A i (j + 1)) (w'.setCell ⟨g, x + i, none⟩ (.int .i64 ((y.v : Nat) : Int)))) := by
            intro w' hb
            exact ((I.below hb).set (x + i) hxN y hgs').congr (fun t _ => by rw [hx, hy]; exact trS_step r c A i j t hlt1)
          have na := I.a.ne I.G
          have np := I.p.ne I.G
          have b1 : (j : Int) < (c : Int) := by omega
          have b5 : (0 : Int) ≤ (x : Int) + (i : Int) := by omega
          have b6 : (x : Int) + (i : Int) < (N : Int) := by omega
          have b7 : ((x : Int) + (i : Int)).toNat = x + i := by omega
          have hwb : IntKind.i64.wrap ((j : Int) * (r : Int)) = (x : Int) := by rw [hxi]; exact wraps_i64 _ (by omega) (by omega)
          have hwc : IntKind.i64.wrap ((x : Int) + (i : Int)) = (x : Int) + (i : Int) := wraps_i64 _ (by omega) (by omega)
          have HB0 : Hid (Below wr.heap.size wr wr.drew) := (Below.refl _ _).drew
          clear I hx hy hov hxi
          go_wp2_with fail
          go_region_held3 (fun w'' => (w''.cell? ⟨w.heap.size, 0, none⟩ = some (.int .i64 r) ∧ w''.cell? ⟨w.heap.size, 1, none⟩ = some (.int .i64 c) ∧ w''.cell? ⟨w.heap.size, 2, none⟩ = some (.slice (some ⟨ba, oa, none⟩) NA cpa)) ∧ w''.cell? ⟨w3.heap.size, 2, none⟩ = some (.slice (some ⟨g, 0, none⟩) N N)) (first | assumption | exact ⟨⟨by assumption, by assumption, by assumption⟩, by assumption⟩ | exact ⟨⟨m0, m1, m2⟩, m3⟩ | exact ⟨⟨(cell_off na).trans (by assumption), (cell_off na).trans (by assumption), (cell_off na).trans (by assumption)⟩, (cell_off np).trans (by assumption)⟩)
            (first
              | (go_at_call 39; refine (R1.out _ _ _ _ (by with_reducible rfl) (by with_reducible rfl) (by with_reducible rfl) (by first | assumption | exact HB0.out)).mono ?_; rintro e wa ⟨rfl, ka, ⟨⟨ka1, ka2, ka3⟩, ka4⟩, ka5, ka6⟩))
          all_goals
            clear R1
            go_wp2
            exact ⟨⟨j + 1, by omega, by go_num, FIN.out _ ka⟩, by simp [intOf]; omega⟩
        · obtain rfl : j = c := by omega
          have b1 : ¬ (j : Int) < (j : Int) := by omega
          have HI := hide (I.congr (G' := trS r j A (i + 1) 0) (fun t ht => QX.out i t ht))
          clear I
          go_wp2
          exact ⟨⟨i + 1, by omega, by go_num, HI.out⟩, by simp [intOf]; omega⟩
    · obtain rfl : i = r := by omega
      have b0 : ¬ (i : Int) < (i : Int) := by omega
      have p0 := I.p.cell0
      have p1 := I.p.cell1
      have p2 := I.p.cell2
      have z0 := I.z.cell0
      have z1 := I.z.cell1
      have z2 := I.z.cell2
      have zf := I.z.free
      have hne := I.z.ne I.G
      have HI := hide I
      clear I
      go_wp2
      obtain ⟨hX5, g5⟩ := HI.out.z.put (c : Int) (i : Int) (.slice (some ⟨g, 0, none⟩) N N)
      refine bodyPost_ret (v := .tuple #[.agg #[.int .i64 c, .int .i64 i, .slice (some ⟨g, 0, none⟩) N N], .int .i64 0]) (by simp [results, Try.results22, go_sem, hX5.cell0, hX5.cell1, hX5.cell2]) rfl ⟨g, rfl, ?_, hgs', below_gb HI.out.gr g5 (by omega) HI.out.gr.size⟩
      exact (HI.out.G.of_block (g5.block g HI.out.G.lt (by simp; exact fun e => hne e.symm))).congr (fun t _ => trS_all i c A t a1)
end Go.Proofs.Ythedeggggbdibaa

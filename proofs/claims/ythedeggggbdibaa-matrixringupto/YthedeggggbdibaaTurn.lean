/-
  The contract of Turn.
-/
import Derived.Test.YthedeggggbdibaaPick
namespace Go.Proofs.Ythedeggggbdibaa
open Go.RowKit Go.Lib

/-- i rows are turned, and j members of the next. -/
def trS (r c : Nat) (A : Nat → K) (i j : Nat) : Nat → K := fun t => if t % r < i ∨ (t % r = i ∧ t / r < j) then A (t % r * c + t / r) else 0
theorem trS_next (r c : Nat) (A : Nat → K) (i t : Nat) (ht : t < c * r) : trS r c A i c t = trS r c A (i + 1) 0 t := by
  have := div_lt ht
  have nz : ¬ t / r < 0 := Nat.not_lt_zero _
  unfold trS
  by_cases h : t % r < i ∨ (t % r = i ∧ t / r < c)
  · rw [if_pos h, if_pos (by omega)]
  · rw [if_neg h, if_neg (by omega)]
theorem trS_step (r c : Nat) (A : Nat → K) (i j t : Nat) (hi : i < r) : (if t = j * r + i then A (i * c + j) else trS r c A i j t) = trS r c A i (j + 1) t := by
  by_cases h : t = j * r + i
  · subst h
    rw [if_pos rfl, trS, div_at hi, mod_at hi, if_pos (by omega)]
  · rw [if_neg h]
    unfold trS
    by_cases h2 : t % r < i ∨ (t % r = i ∧ t / r < j)
    · rw [if_pos h2, if_pos (by omega)]
    · rw [if_neg h2, if_neg]
      intro h3
      apply h
      have e := Nat.div_add_mod t r
      rw [show t / r = j by omega, show t % r = i by omega, Nat.mul_comm] at e
      exact e.symm
theorem trS_all (r c : Nat) (A : Nat → K) (t : Nat) (hr : 0 < r) : trS r c A r 0 t = flat r (fun i j => mt c A j i) t := by
  rw [trS, if_pos (.inl (Nat.mod_lt t hr)), flat, mt]

set_option maxRecDepth 100000 in
set_option maxHeartbeats 1600000 in
theorem turn_ok {w : World} {f r c : Nat} {va : Value} {A : Nat → K} (a1 : 1 ≤ r) (a2 : r ≤ 255) (c1 : 1 ≤ c) (c2 : c ≤ 255)
    (hA : NX w f va (r * c) (fun t => (((A t).v : Nat) : Int))) :
    Calls Try.prog 21 #[.agg #[.int .i64 r, .int .i64 c, va]] w fun e w' =>
      ∃ g, e = .returned (.tuple #[.agg #[.int .i64 c, .int .i64 r, .slice (some ⟨g, 0, none⟩) (c * r) (c * r)], .int .i64 0]) ∧ KB w' g (c * r) (flat r (fun i j => mt c A j i)) ∧ w.heap.size ≤ g ∧ Below w.heap.size w w' := by
  have hNA : r * c ≤ 255 * 255 := Nat.mul_le_mul a2 c2
  have hNN : c * r ≤ 255 * 255 := Nat.mul_le_mul c2 a2
  have hA0 : r * c ≠ 0 := Nat.mul_ne_zero (by omega) (by omega)
  obtain ⟨ba, oa, cpa, rfl, ha3, ha4, ha5⟩ := hA.at hA0
  have EA := chk_ok a1 a2 c1 c2 A
  have HZ : Hid _ := fun w => zeros_any w c r c2 a2
  have QA : Hid (∀ i, i < r → (i + 1) * c ≤ r * c) := fun i hi => row_in hi
  have QN : Hid (∀ i, i < c → (i + 1) * r ≤ c * r) := fun i hi => row_in hi
  have QX : Hid (∀ i t, t < c * r → trS r c A i c t = trS r c A (i + 1) 0 t) := fun i t ht => trS_next r c A i t ht
  generalize r * c = NA at *
  generalize c * r = N at *
  have A1 := hide ((hA.alloc (.cells #[.int .i64 r, .int .i64 c, .slice (some ⟨ba, oa, none⟩) NA cpa] 24)).alloc (.cells #[.int .i64 0, .int .i64 0, .slice none 0 0] 24))
  have X1 := hide ((Bx.new w r c (.slice (some ⟨ba, oa, none⟩) NA cpa)).alloc (.cells #[.int .i64 0, .int .i64 0, .slice none 0 0] 24))
  have Y1 := Bx.new (w.alloc (.cells #[.int .i64 r, .int .i64 c, .slice (some ⟨ba, oa, none⟩) NA cpa] 24)) 0 0 (.slice none 0 0)
  rw [show (w.alloc (.cells #[.int .i64 r, .int .i64 c, .slice (some ⟨ba, oa, none⟩) NA cpa] 24)).heap.size = w.heap.size + 1 by simp] at Y1
  have HY1 := hide Y1
  have L1 := hide (below_alloc (below_alloc (Below.refl w.heap.size w) (.cells #[.int .i64 r, .int .i64 c, .slice (some ⟨ba, oa, none⟩) NA cpa] 24)) (.cells #[.int .i64 0, .int .i64 0, .slice none 0 0] 24))
  have HA := hide hA
  clear hA Y1
  go_enter Try.func21, Try.ntmps21
  go_wp2_with fail
  refine (check_any A1.out (by omega)).mono ?_
  rintro e w1 ⟨rfl, j1⟩
  rw [EA]
  have X2 := X1.out.below j1 (Nat.le_refl _)
  have Y2 := HY1.out.below j1 (Nat.le_refl _)
  have L2 := below_step L1.out j1
  have x0 := X2.cell0
  have x1 := X2.cell1
  have HX2 := hide X2
  have HY2 := hide Y2
  have HL2 := hide L2
  clear A1 X1 HY1 L1 j1 EA X2 Y2 L2
  go_wp2_with fail
  refine Calls.mono (HZ.out _) ?_
  rintro e w3 ⟨g, rfl, hG, hgs, j3⟩
  have hgs' : w.heap.size ≤ g := Nat.le_trans HL2.out.size hgs
  have KG := (hG.congr (f' := trS r c A 0 0) (fun t _ => by rw [trS, if_neg (fun h => by rcases h with h | h; exact Nat.not_lt_zero _ h; exact Nat.not_lt_zero _ h.2)])).alloc (.cells #[.int .i64 c, .int .i64 r, .slice (some ⟨g, 0, none⟩) N N] 24)
  have XA := (HX2.out.below j3 (Nat.le_refl _)).alloc (.cells #[.int .i64 c, .int .i64 r, .slice (some ⟨g, 0, none⟩) N N] 24)
  have XR := (HY2.out.below j3 (Nat.le_refl _)).alloc (.cells #[.int .i64 c, .int .i64 r, .slice (some ⟨g, 0, none⟩) N N] 24)
  have XP := Bx.new w3 c r (.slice (some ⟨g, 0, none⟩) N N)
  have LL := below_alloc (below_step HL2.out j3) (.cells #[.int .i64 c, .int .i64 r, .slice (some ⟨g, 0, none⟩) N N] 24)
  have y0 := XA.cell0
  have HI := hide (show KB _ g N (trS r c A 0 0) ∧ Bx _ w.heap.size r c _ ∧ Bx _ (w.heap.size + 1) 0 0 _ ∧ Bx _ w3.heap.size c r _ ∧ Below w.heap.size w _ from ⟨KG, XA, XR, XP, LL⟩)
  clear hG hgs j3 KG XA XR XP LL HX2 HY2 HL2 HZ x0 x1
  go_wp2
  go_loopw [22] (fun z wr => ∃ i : Nat, i ≤ r ∧ z = .int .i64 i ∧ KB wr g N (trS r c A i 0) ∧ Bx wr w.heap.size r c (.slice (some ⟨ba, oa, none⟩) NA cpa) ∧ Bx wr (w.heap.size + 1) 0 0 (.slice none 0 0) ∧ Bx wr w3.heap.size c r (.slice (some ⟨g, 0, none⟩) N N) ∧ Below w.heap.size w wr) (fun z _ => r - (intOf z).toNat)
  case atStart => exact ⟨0, Nat.zero_le _, rfl, HI.out⟩
  case round =>
    obtain ⟨i, hi, rfl, KG, XA, XR, XP, LL⟩ := hrel
    clear HI y0
    by_cases hlt1 : i < r
    · obtain ⟨x, hx⟩ : ∃ x, x = oa + i * c := ⟨_, rfl⟩
      have HR : Hid _ := fun w => row_at w i (r := r) (c := c) (b := ba) (k := oa) (cp := cpa) (n := NA) (x := x) hx (by omega) c1 c2 (QA.out i hlt1) ha3
      have HX := hide hx
      have p0 := XA.cell0
      have p1 := XA.cell1
      have p2 := XA.cell2
      have HK := hide KG
      have HA1 := hide XA
      have HR1 := hide XR
      have HP1 := hide XP
      have HL1 := hide LL
      clear KG XA XR XP LL hx
      have b0 : (i : Int) < (r : Int) := by omega
      go_wp2_with fail
      refine Calls.mono (HR.out _) ?_
      rintro e w4 ⟨rfl, k4⟩
      have HI := hide (show KB w4 g N (trS r c A i 0) ∧ Bx w4 w.heap.size r c _ ∧ Bx w4 (w.heap.size + 1) 0 0 _ ∧ Bx w4 w3.heap.size c r _ ∧ Below w.heap.size w w4 from ⟨HK.out.below k4 (Nat.le_refl _), HA1.out.below k4 (Nat.le_refl _), HR1.out.below k4 (Nat.le_refl _), HP1.out.below k4 (Nat.le_refl _), below_step HL1.out k4⟩)
      clear HK HA1 HR1 HP1 HL1 k4 HR p0 p1 p2
      go_wp2
      go_loopw [29] (fun z wr => ∃ j : Nat, j ≤ c ∧ z = .int .i64 j ∧ KB wr g N (trS r c A i j) ∧ Bx wr w.heap.size r c (.slice (some ⟨ba, oa, none⟩) NA cpa) ∧ Bx wr (w.heap.size + 1) 0 0 (.slice none 0 0) ∧ Bx wr w3.heap.size c r (.slice (some ⟨g, 0, none⟩) N N) ∧ Below w.heap.size w wr) (fun z _ => c - (intOf z).toNat)
      case atStart => exact ⟨0, Nat.zero_le _, rfl, HI.out⟩
      case round =>
        obtain ⟨j, hj, rfl, KG, XA, XR, XP, LL⟩ := hrel
        clear HI
        by_cases hlt2 : j < c
        · have hij : i * c + j < NA := Nat.lt_of_lt_of_le (by rw [Nat.add_mul, Nat.one_mul]; omega) (QA.out i hlt1)
          have cA := (HA.out.below LL).cell_at (i * c + j) hij
          rw [show oa + (i * c + j) = x + j by rw [HX.out]; omega] at cA
          obtain ⟨y, hy⟩ : ∃ y, y = j * r := ⟨_, rfl⟩
          have hyN : y + i < N := Nat.lt_of_lt_of_le (by rw [Nat.add_mul, Nat.one_mul]; omega) (QN.out j hlt2)
          have HR : Hid _ := fun w => row_at w j (r := c) (c := r) (b := g) (k := 0) (cp := N) (n := N) (x := y) (by omega) (by omega) a1 a2 (QN.out j hlt2) (Nat.le_refl _)
          have p0 := XP.cell0
          have p1 := XP.cell1
          have p2 := XP.cell2
          obtain ⟨aij, haij⟩ : ∃ aij, aij = A (i * c + j) := ⟨_, rfl⟩
          rw [← haij] at cA
          have HAI := hide haij
          have HYY := hide hy
          have HK := hide KG
          have HA1 := hide XA
          have HR1 := hide XR
          have HP1 := hide XP
          have HL1 := hide LL
          clear KG XA XR XP LL hy haij hij
          have b1 : (j : Int) < (c : Int) := by omega
          have b2 : (0 : Int) ≤ (j : Int) := by omega
          have b3 : (0 : Int) ≤ (i : Int) := by omega
          go_wp2_with fail
          refine Calls.mono (HR.out _) ?_
          rintro e w5 ⟨rfl, k5⟩
          have K5 := HK.out.below k5 (Nat.le_refl _)
          have c5 := K5.cell (y + i) hyN
          have z5 := K5.free (y + i)
          have gs := gb_set w5 g (y + i) (.int .i64 ((aij.v : Nat) : Int))
          have XA5 := HA1.out.below k5 (Nat.le_refl _)
          have XR5 := HR1.out.below k5 (Nat.le_refl _)
          have XP5 := HP1.out.below k5 (Nat.le_refl _)
          have HN := hide (show KB _ g N (trS r c A i (j + 1)) ∧ Bx _ w.heap.size r c _ ∧ Bx _ (w.heap.size + 1) 0 0 _ ∧ Bx _ w3.heap.size c r _ ∧ Below w.heap.size w _ from ⟨(K5.set (y + i) hyN aij).congr (fun t _ => by rw [HYY.out, HAI.out]; exact trS_step r c A i j t hlt1), XA5.of_block (gs.block _ XA5.lt (by simp; exact XA5.ne K5)), XR5.of_block (gs.block _ XR5.lt (by simp; exact XR5.ne K5)), XP5.of_block (gs.block _ XP5.lt (by simp; exact XP5.ne K5)), below_gb (below_step HL1.out k5) gs hgs' (Nat.le_trans HL1.out.size k5.size)⟩)
          clear K5 gs XA5 XR5 XP5 HK HA1 HR1 HP1 HL1 k5 HR p0 p1 p2 cA
          go_wp2
          exact ⟨⟨j + 1, by omega, by go_num, HN.out⟩, by simp [intOf]; omega⟩
        · obtain rfl : j = c := by omega
          have HN := hide (show KB wr g N (trS r j A (i + 1) 0) ∧ Bx wr w.heap.size r j _ ∧ Bx wr (w.heap.size + 1) 0 0 _ ∧ Bx wr w3.heap.size j r _ ∧ Below w.heap.size w wr from ⟨KG.congr (fun t ht => QX.out i t ht), XA, XR, XP, LL⟩)
          clear KG XA XR XP LL
          go_wp2
          exact ⟨⟨i + 1, by omega, by go_num, HN.out⟩, by simp [intOf]; omega⟩
    · obtain rfl : i = r := by omega
      have p0 := XP.cell0
      have p1 := XP.cell1
      have p2 := XP.cell2
      have q0 := XR.cell0
      have q1 := XR.cell1
      have q2 := XR.cell2
      have f2 := XR.free
      have hne := XR.ne KG
      have HK := hide KG
      have HR1 := hide XR
      have HL1 := hide LL
      clear KG XA XR XP LL
      go_wp2
      obtain ⟨hX5, g5⟩ := HR1.out.put (c : Int) (i : Int) (.slice (some ⟨g, 0, none⟩) N N)
      refine bodyPost_ret (v := .tuple #[.agg #[.int .i64 c, .int .i64 i, .slice (some ⟨g, 0, none⟩) N N], .int .i64 0]) (by simp [results, Try.results21, go_sem, hX5.cell0, hX5.cell1, hX5.cell2]) rfl ⟨g, rfl, ?_, hgs', below_gb HL1.out g5 (by omega) HL1.out.size⟩
      exact (HK.out.of_block (g5.block g HK.out.lt (by simp; exact fun e => hne e.symm))).congr (fun t _ => trS_all i c A t a1)
end Go.Proofs.Ythedeggggbdibaa

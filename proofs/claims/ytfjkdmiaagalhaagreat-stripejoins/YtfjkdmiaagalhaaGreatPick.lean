/-
  The contract of Pick.
-/
import Derived.Test.YtfjkdmiaagalhaaGreatInv
namespace Go.Proofs.YtfjkdmiaagalhaaGreat
open Go.RowKit Go.Lib

theorem up_nat {most : Int} {n : Nat} {ρ : Nat → Nat} (h : ∀ t, t < n → ((ρ t : Nat) : Int) ≤ most) : upB most (fun t => ((ρ t : Nat) : Int)) n = true := by
  induction n with
  | zero => rfl
  | succ n ih =>
    rw [upB_succ, ih (fun t ht => h t (by omega)), Bool.and_true]
    have := h n (by omega)
    simp; omega
/-- What the loop of Pick keeps. -/
structure PickI (w : World) (g N pb k c : Nat) (r : Nat) (va : Value) (G : Nat → K) (wr : World) : Prop where
  G : KB wr g N G
  a : Bx wr w.heap.size r c va
  r : Bx wr (w.heap.size + 1) 0 0 (.slice none 0 0)
  p : Bx wr pb k c (.slice (some ⟨g, 0, none⟩) N N)
  gr : Below w.heap.size w wr
theorem PickI.below {w : World} {g N pb k c r : Nat} {va : Value} {G : Nat → K} {wr w' : World} (h : PickI w g N pb k c r va G wr) (hb : Below wr.heap.size wr w') : PickI w g N pb k c r va G w' :=
  ⟨h.G.below hb (Nat.le_refl _), h.a.below hb (Nat.le_refl _), h.r.below hb (Nat.le_refl _), h.p.below hb (Nat.le_refl _), below_step h.gr hb⟩
theorem PickI.turn {w : World} {g N pb k c r : Nat} {va : Value} {G G' : Nat → K} {wr w' : World} (h : PickI w g N pb k c r va G wr) (hg : wr.grownBy w' (some g)) (hG : KB w' g N G') (hw : w.heap.size ≤ g) : PickI w g N pb k c r va G' w' :=
  ⟨hG, h.a.of_block (hg.block _ h.a.lt (by simp; exact h.a.ne h.G)), h.r.of_block (hg.block _ h.r.lt (by simp; exact h.r.ne h.G)), h.p.of_block (hg.block _ h.p.lt (by simp; exact h.p.ne h.G)), below_gb h.gr hg hw h.gr.size⟩
def pickF (c : Nat) (Q : Mt) (i : Nat) : Nat → K := fun t => if t / c < i then Q (t / c) (t % c) else 0
theorem pickF_step (n : Nat) (Q : Mt) (i t : Nat) (hn : 0 < n) : splF (i * n) n (Q i) (pickF n Q i) t = pickF n Q (i + 1) t := invF_step n Q i t hn
theorem pickF_all (n m : Nat) (Q : Mt) (t : Nat) (h : t < m * n) : pickF n Q m t = flat n Q t := by rw [pickF, if_pos (div_lt h), flat]

set_option maxRecDepth 100000 in
set_option maxHeartbeats 1600000 in
theorem pick_ok {w : World} {f f' r c k : Nat} {va vr : Value} {A : Nat → K} {ρ : Nat → Nat} (a1 : 1 ≤ r) (a2 : r ≤ 255) (c1 : 1 ≤ c) (c2 : c ≤ 255) (k1 : 1 ≤ k) (k2 : k ≤ 255)
    (hA : NX w f va (r * c) (fun t => (((A t).v : Nat) : Int))) (hr : NX w f' vr k (fun t => ((ρ t : Nat) : Int))) (hρ : ∀ t, t < k → ρ t < r) :
    Calls Tryz.prog 72 #[.agg #[.int .i64 r, .int .i64 c, va], vr] w fun e w' =>
      ∃ g, e = .returned (.tuple #[.agg #[.int .i64 k, .int .i64 c, .slice (some ⟨g, 0, none⟩) (k * c) (k * c)], .int .i64 0]) ∧ KB w' g (k * c) (flat c (fun i j => mt c A (ρ i) j)) ∧ w.heap.size ≤ g ∧ Below w.heap.size w w' := by
  have hNA : r * c ≤ 255 * 255 := Nat.mul_le_mul a2 c2
  have hNN : k * c ≤ 255 * 255 := Nat.mul_le_mul k2 c2
  have hA0 : r * c ≠ 0 := Nat.mul_ne_zero (by omega) (by omega)
  obtain ⟨ba, oa, cpa, rfl, ha3, ha4, ha5⟩ := hA.at hA0
  obtain ⟨br, or, cpr, rfl, hr3, hr4, hr5⟩ := hr.at (by omega : k ≠ 0)
  have EA := chk_ok a1 a2 c1 c2 A
  have EU := up_nat (most := (r : Int) - 1) (n := k) (ρ := ρ) (fun t ht => by have := hρ t ht; omega)
  have ES := isSd_nat k1 k2
  have HZ : Hid _ := fun w => zeros_any w k c k2 c2
  have QA : Hid (∀ i, i < r → (i + 1) * c ≤ r * c) := fun i hi => row_in hi
  have QN : Hid (∀ i, i < k → (i + 1) * c ≤ k * c) := fun i hi => row_in hi
  have QI : Hid (∀ (Q : Mt) t, t < k * c → pickF c Q k t = flat c Q t) := fun Q t ht => pickF_all c k Q t ht
  generalize r * c = NA at *
  generalize k * c = N at *
  have A1 := hide ((hA.alloc (.cells #[.int .i64 r, .int .i64 c, .slice (some ⟨ba, oa, none⟩) NA cpa] 50)).alloc (.cells #[.int .i64 0, .int .i64 0, .slice none 0 0] 50))
  have X1 := hide ((Bx.new w r c (.slice (some ⟨ba, oa, none⟩) NA cpa)).alloc (.cells #[.int .i64 0, .int .i64 0, .slice none 0 0] 50))
  have Y1 := Bx.new (w.alloc (.cells #[.int .i64 r, .int .i64 c, .slice (some ⟨ba, oa, none⟩) NA cpa] 50)) 0 0 (.slice none 0 0)
  rw [show (w.alloc (.cells #[.int .i64 r, .int .i64 c, .slice (some ⟨ba, oa, none⟩) NA cpa] 50)).heap.size = w.heap.size + 1 by simp] at Y1
  have HY1 := hide Y1
  have L1 := hide (below_alloc (below_alloc (Below.refl w.heap.size w) (.cells #[.int .i64 r, .int .i64 c, .slice (some ⟨ba, oa, none⟩) NA cpa] 50)) (.cells #[.int .i64 0, .int .i64 0, .slice none 0 0] 50))
  have HA := hide hA
  have HR := hide hr
  have HP := hide hρ
  clear hA hr Y1 hρ
  go_enter Tryz.func72, Tryz.ntmps72
  go_wp2_with fail
  refine (check_any A1.out (by omega)).mono ?_
  rintro e w1 ⟨rfl, j1⟩
  rw [EA]
  have X2 := X1.out.below j1 (Nat.le_refl _)
  have Y2 := HY1.out.below j1 (Nat.le_refl _)
  have L2 := below_step L1.out j1
  have x0 := X2.cell0
  have R2 := hide (HR.out.below L2)
  have HX2 := hide X2
  have HY2 := hide Y2
  have HL2 := hide L2
  clear A1 X1 HY1 L1 j1 EA X2 Y2 L2
  go_wp2_with (first | (go_at_call 54; refine (isSide_any _ _).mono ?_; rintro e w9 ⟨rfl, rfl⟩) | fail)
  refine (allUp_any R2.out (by omega)).mono ?_
  rintro e w2 ⟨rfl, j2⟩
  rw [EU]
  have X3 := HX2.out.below j2 (Nat.le_refl _)
  have Y3 := HY2.out.below j2 (Nat.le_refl _)
  have L3 := below_step HL2.out j2
  have x1 := X3.cell1
  have HX3 := hide X3
  have HY3 := hide Y3
  have HL3 := hide L3
  clear R2 HX2 HY2 HL2 j2 EU X3 Y3 L3 x0
  go_wp2_with fail
  refine Calls.mono (HZ.out _) ?_
  rintro e w3 ⟨g, rfl, hG, hgs, j3⟩
  have hgs' : w.heap.size ≤ g := Nat.le_trans HL3.out.size hgs
  have I : PickI w g N w3.heap.size k c r (.slice (some ⟨ba, oa, none⟩) NA cpa) (pickF c (fun i j => mt c A (ρ i) j) 0) (w3.alloc (.cells #[.int .i64 k, .int .i64 c, .slice (some ⟨g, 0, none⟩) N N] 50)) :=
    ⟨(hG.congr (fun t _ => by rw [pickF, if_neg (Nat.not_lt_zero _)])).alloc _, (HX3.out.below j3 (Nat.le_refl _)).alloc _, (HY3.out.below j3 (Nat.le_refl _)).alloc _, Bx.new _ _ _ _, below_alloc (below_step HL3.out j3) _⟩
  have HI := hide I
  clear hG hgs j3 I HX3 HY3 HL3 HZ x1
  go_wp2
  go_loopw [36] (fun z wr => ∃ i : Nat, i ≤ k ∧ z = .int .i64 i ∧ PickI w g N w3.heap.size k c r (.slice (some ⟨ba, oa, none⟩) NA cpa) (pickF c (fun i j => mt c A (ρ i) j) i) wr) (fun z _ => k - (intOf z).toNat)
  case atStart => exact ⟨0, Nat.zero_le _, rfl, HI.out⟩
  case round =>
    obtain ⟨i, hi, rfl, I⟩ := hrel
    clear HI
    by_cases hlt1 : i < k
    · obtain ⟨y, hy⟩ : ∃ y, y = i * c := ⟨_, rfl⟩
      obtain ⟨x, hx⟩ : ∃ x, x = oa + ρ i * c := ⟨_, rfl⟩
      have hpi := HP.out i hlt1
      have hyN : y + c ≤ N := by have := QN.out i hlt1; rw [Nat.add_mul, Nat.one_mul] at this; omega
      have cr := (HR.out.below I.gr).cell_at i hlt1
      have R1 : Hid (∀ (v u : Value) (w' : World), v = .agg #[.int .i64 k, .int .i64 c, .slice (some ⟨g, 0, none⟩) N N] → u = .int .i64 i → Below wr.heap.size wr w' → Calls Tryz.prog 31 #[v, u] w' fun e w'' => e = .returned (.slice (some ⟨g, y, none⟩) c c) ∧ Below wr.heap.size wr w'' ∧ w''.cell? ⟨w3.heap.size, 0, none⟩ = some (.int .i64 k) ∧ w''.cell? ⟨w3.heap.size, 1, none⟩ = some (.int .i64 c) ∧ w''.cell? ⟨w3.heap.size, 2, none⟩ = some (.slice (some ⟨g, 0, none⟩) N N) ∧ w''.cell? ⟨w.heap.size, 0, none⟩ = some (.int .i64 r) ∧ w''.cell? ⟨w.heap.size, 1, none⟩ = some (.int .i64 c) ∧ w''.cell? ⟨w.heap.size, 2, none⟩ = some (.slice (some ⟨ba, oa, none⟩) NA cpa)) := by
        intro v u w' hv hu hb
        subst hv hu
        refine (row_at w' i (x := y) (by omega) (by omega) c1 c2 (QN.out i hlt1) (Nat.le_refl _)).mono ?_
        rintro e w'' ⟨rfl, j⟩
        have j' := below_step hb j
        have I' := I.below j'
        exact ⟨rfl, j', I'.p.cell0, I'.p.cell1, I'.p.cell2, I'.a.cell0, I'.a.cell1, I'.a.cell2⟩
      have R2 : Hid (∀ (v u : Value) (w' : World), v = .agg #[.int .i64 r, .int .i64 c, .slice (some ⟨ba, oa, none⟩) NA cpa] → u = .int .i64 ((ρ i : Nat) : Int) → Below wr.heap.size wr w' → Calls Tryz.prog 31 #[v, u] w' fun e w'' => e = .returned (.slice (some ⟨ba, x, none⟩) c c) ∧ Below wr.heap.size wr w'' ∧ w''.cell? ⟨w3.heap.size, 0, none⟩ = some (.int .i64 k) ∧ w''.cell? ⟨w3.heap.size, 1, none⟩ = some (.int .i64 c) ∧ w''.cell? ⟨w3.heap.size, 2, none⟩ = some (.slice (some ⟨g, 0, none⟩) N N) ∧ w''.cell? ⟨w.heap.size, 0, none⟩ = some (.int .i64 r) ∧ w''.cell? ⟨w.heap.size, 1, none⟩ = some (.int .i64 c) ∧ w''.cell? ⟨w.heap.size, 2, none⟩ = some (.slice (some ⟨ba, oa, none⟩) NA cpa)) := by
        intro v u w' hv hu hb
        subst hv hu
        refine (row_at w' (ρ i) hx (by omega) c1 c2 (QA.out _ hpi) ha3).mono ?_
        rintro e w'' ⟨rfl, j⟩
        have j' := below_step hb j
        have I' := I.below j'
        exact ⟨rfl, j', I'.p.cell0, I'.p.cell1, I'.p.cell2, I'.a.cell0, I'.a.cell1, I'.a.cell2⟩
      have AC : Hid (∀ (w' : World), Below wr.heap.size wr w' → ∃ wc, (Builtin.copy_ #[48, 48] 3 #[.slice (some ⟨g, y, none⟩) c c, .slice (some ⟨ba, x, none⟩) c c]).run Tryz.prog w' = .ok (goInt c) wc ∧ PickI w g N w3.heap.size k c r (.slice (some ⟨ba, oa, none⟩) NA cpa) (pickF c (fun i j => mt c A (ρ i) j) (i + 1)) wc ∧ wc.cell? ⟨w3.heap.size, 0, none⟩ = some (.int .i64 k) ∧ wc.cell? ⟨w3.heap.size, 1, none⟩ = some (.int .i64 c) ∧ wc.cell? ⟨w3.heap.size, 2, none⟩ = some (.slice (some ⟨g, 0, none⟩) N N) ∧ wc.cell? ⟨w.heap.size, 0, none⟩ = some (.int .i64 r) ∧ wc.cell? ⟨w.heap.size, 1, none⟩ = some (.int .i64 c) ∧ wc.cell? ⟨w.heap.size, 2, none⟩ = some (.slice (some ⟨ba, oa, none⟩) NA cpa)) := by
        intro w' hb
        have I' := I.below hb
        obtain ⟨wc, h1, h2, h3⟩ := copy_row (cd := c) (cs := c) (b := ba) (o := x) (H := fun j => mt c A (ρ i) j) I'.G (fun j hj => by
          have := (HA.out.below I'.gr).cell_at (ρ i * c + j) (Nat.lt_of_lt_of_le (by rw [Nat.add_mul, Nat.one_mul]; omega) (QA.out _ hpi))
          rw [show x + j = oa + (ρ i * c + j) by omega]
          exact this) hyN
        have I2 := I'.turn h3 (h2.congr (f' := pickF c (fun i j => mt c A (ρ i) j) (i + 1)) (fun t _ => by rw [hy]; exact pickF_step c (fun i j => mt c A (ρ i) j) i t (by omega))) hgs'
        exact ⟨wc, h1, I2, I2.p.cell0, I2.p.cell1, I2.p.cell2, I2.a.cell0, I2.a.cell1, I2.a.cell2⟩
      have m0 := I.p.cell0
      have m1 := I.p.cell1
      have m2 := I.p.cell2
      have m3 := I.a.cell0
      have m4 := I.a.cell1
      have m5 := I.a.cell2
      clear I hy hx
      generalize ρ i = ri at *
      have b0 : (0 : Int) ≤ (i : Int) := by omega
      have b1 : (i : Int) < (k : Int) := by omega
      go_wp2_with fail
      go_region_held_law (fun w' => w'.cell? ⟨w3.heap.size, 0, none⟩ = some (.int .i64 k) ∧ w'.cell? ⟨w3.heap.size, 1, none⟩ = some (.int .i64 c) ∧ w'.cell? ⟨w3.heap.size, 2, none⟩ = some (.slice (some ⟨g, 0, none⟩) N N) ∧ w'.cell? ⟨w.heap.size, 0, none⟩ = some (.int .i64 r) ∧ w'.cell? ⟨w.heap.size, 1, none⟩ = some (.int .i64 c) ∧ w'.cell? ⟨w.heap.size, 2, none⟩ = some (.slice (some ⟨ba, oa, none⟩) NA cpa)) (first | assumption | exact ⟨by assumption, by assumption, by assumption, by assumption, by assumption, by assumption⟩ | exact ⟨m0, m1, m2, m3, m4, m5⟩)
        (first
          | (go_at_call 31; refine (R1.out _ _ _ (by with_reducible rfl) (by with_reducible rfl) (by first | assumption | exact (Below.refl _ _).drew)).mono ?_; rintro e wa ⟨rfl, ka, ka1, ka2, ka3, ka4, ka5, ka6⟩)
          | (go_at_call 31; refine (R2.out _ _ _ (by with_reducible rfl) (by with_reducible rfl) (by first | assumption | exact (Below.refl _ _).drew)).mono ?_; rintro e wb ⟨rfl, kb, kb1, kb2, kb3, kb4, kb5, kb6⟩)
          | (obtain ⟨wc, hr, kc, kc1, kc2, kc3, kc4, kc5, kc6⟩ := AC.out _ kb; refine step_copy_run rfl _ _ 48 48 rfl _ _ rfl rfl _ _ hr ?_)
          | (obtain ⟨wc, hr, kc, kc1, kc2, kc3, kc4, kc5, kc6⟩ := AC.out _ ka; refine step_copy_run rfl _ _ 48 48 rfl _ _ rfl rfl _ _ hr ?_))
      all_goals
        clear R1 R2 AC
        go_wp2
        exact ⟨⟨i + 1, by omega, by go_num, kc⟩, by simp [intOf]; omega⟩
    · obtain rfl : i = k := by omega
      have p0 := I.p.cell0
      have p1 := I.p.cell1
      have p2 := I.p.cell2
      have q0 := I.r.cell0
      have q1 := I.r.cell1
      have q2 := I.r.cell2
      have f2 := I.r.free
      have hne := I.r.ne I.G
      have HI := hide I
      clear I
      go_wp2
      obtain ⟨hX5, g5⟩ := HI.out.r.put (i : Int) (c : Int) (.slice (some ⟨g, 0, none⟩) N N)
      refine bodyPost_ret (v := .tuple #[.agg #[.int .i64 i, .int .i64 c, .slice (some ⟨g, 0, none⟩) N N], .int .i64 0]) (by simp [results, Tryz.results72, go_sem, hX5.cell0, hX5.cell1, hX5.cell2]) rfl ⟨g, rfl, ?_, hgs', below_gb HI.out.gr g5 (by omega) HI.out.gr.size⟩
      exact (HI.out.G.of_block (g5.block g HI.out.G.lt (by simp; exact fun e => hne e.symm))).congr (fun t ht => QI.out _ t ht)
end Go.Proofs.YtfjkdmiaagalhaaGreat

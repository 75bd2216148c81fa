/-
  The contract of the document's own Pick.
-/
import Derived.Test.YthedeggggbdibaaRefK
import Derived.Test.YthedeggggbdibaaRefMul
import Derived.BigQuiet
namespace Go.Proofs.Ythedeggggbdibaa
open Go.RowKit Go.Lib

/-- The boxes of what is handed in and out. -/
structure PS (w : World) (r c : Nat) (va : Value) (wr : World) : Prop where
  a : Br wr w.heap.size r c va
  z : Br wr (w.heap.size + 1) 0 0 (.slice none 0 0)
  gr : Below w.heap.size w wr
theorem PS.below {w : World} {r c : Nat} {va : Value} {wr w' : World} (h : PS w r c va wr) (hb : Below wr.heap.size wr w') : PS w r c va w' :=
  ⟨h.a.below hb (Nat.le_refl _), h.z.below hb (Nat.le_refl _), below_step h.gr hb⟩

set_option maxRecDepth 100000 in
set_option maxHeartbeats 1600000 in
theorem refPick_in {w : World} {f f' r c k : Nat} {va vr : Value} {A : Nat → K} {Z : Nat → Int} (a1 : 1 ≤ r) (a2 : r ≤ 255) (c1 : 1 ≤ c) (c2 : c ≤ 255) (k1 : 1 ≤ k) (k2 : k ≤ 255)
    (hA : NX w f va (r * c) (fun t => (((A t).v : Nat) : Int))) (hr : NX w f' vr k Z) :
    Calls Try.prog 24 #[.agg #[.int .i64 r, .int .i64 c, va], vr] w fun e w' =>
      ((upB ((r : Int) - 1) Z k = true ∧ ∃ g, e = .returned (.tuple #[.agg #[.int .i64 k, .int .i64 c, .slice (some ⟨g, 0, none⟩) (k * c) (k * c)], .int .i64 0]) ∧ KB w' g (k * c) (flat c (fun i j => mt c A (Z i).toNat j)) ∧ w.heap.size ≤ g) ∨
       (upB ((r : Int) - 1) Z k = false ∧ e = .returned (.tuple #[.agg #[.int .i64 0, .int .i64 0, .slice none 0 0], .int .i64 1]))) ∧ Below w.heap.size w w' := by
  have hNA : r * c ≤ 255 * 255 := Nat.mul_le_mul a2 c2
  have hNN : k * c ≤ 255 * 255 := Nat.mul_le_mul k2 c2
  have hA0 : r * c ≠ 0 := Nat.mul_ne_zero (by omega) (by omega)
  obtain ⟨ba, oa, cpa, rfl, ha3, ha4, ha5⟩ := hA.at hA0
  obtain ⟨br, orr, cpr, rfl, hr3, hr4, hr5⟩ := hr.at (by omega : k ≠ 0)
  have EA := chk_ok a1 a2 c1 c2 A
  have HZ : Hid _ := fun w => refzero_any w k c k2 c2
  have QA : Hid (∀ i j, i < r → j < c → i * c + j < r * c) := fun i j hi hj => at_lt hi hj
  have QN : Hid (∀ i j, i < k → j < c → i * c + j < k * c) := fun i j hi hj => at_lt hi hj
  have QP : Hid (∀ (Q : Mt) t, t < k * c → mulS c Q k 0 t = flat c Q t) := fun Q t ht => mulS_all c k Q t ht
  obtain ⟨Q, hQ⟩ : ∃ Q : Mt, Q = fun i j => mt c A (Z i).toNat j := ⟨_, rfl⟩
  rw [← hQ]
  have HQ := hide hQ
  clear hQ
  generalize r * c = NA at *
  generalize k * c = N at *
  obtain ⟨oA, hoA⟩ : ∃ o, o = Obj.cells #[.int .i64 r, .int .i64 c, (.slice (some ⟨ba, oa, none⟩) NA cpa)] 29 := ⟨_, rfl⟩
  obtain ⟨oR, hoR⟩ : ∃ o, o = Obj.cells #[.int .i64 0, .int .i64 0, .slice none 0 0] 29 := ⟨_, rfl⟩
  have L2 := below_alloc (below_alloc (Below.refl w.heap.size w) oA) oR
  have A2 := (hA.alloc oA).alloc oR
  have X1 := (show Br (w.alloc oA) w.heap.size r c (.slice (some ⟨ba, oa, none⟩) NA cpa) by rw [hoA]; exact Br.new _ _ _ _).alloc oR
  have X2 := show Br ((w.alloc oA).alloc oR) (w.alloc oA).heap.size 0 0 (.slice none 0 0) by rw [hoR]; exact Br.new _ _ _ _
  rw [show (w.alloc oA).heap.size = w.heap.size + 1 by simp] at X2
  rw [hoA, hoR] at L2 A2 X1 X2
  have HA1 := hide A2
  have HI : Hid (PS w r c (.slice (some ⟨ba, oa, none⟩) NA cpa) _) := ⟨X1, X2, L2⟩
  have HA := hide hA
  have HRR := hide hr
  clear A2 X1 X2 L2 hA hr hoA hoR
  have d1 : ¬ (k : Int) < 1 := by omega
  have d2 : ¬ (255 : Int) < (k : Int) := by omega
  go_enter Try.func24, Try.ntmps24
  go_wp2_with fail
  refine (refCheck_any HA1.out (by omega)).mono ?_
  rintro e w1 ⟨rfl, k1'⟩
  rw [EA]
  have HI1 := hide (HI.out.below k1')
  clear HI HA1 k1'
  go_wp2
  go_loopw [7] (fun z wr => ∃ i : Nat, i ≤ k ∧ z = .int .i64 i ∧ upB ((r : Int) - 1) Z i = true ∧ PS w r c (.slice (some ⟨ba, oa, none⟩) NA cpa) wr) (fun z _ => k - (intOf z).toNat)
  case atStart => exact ⟨0, Nat.zero_le _, rfl, rfl, HI1.out⟩
  case round =>
    obtain ⟨i, hi, rfl, hu, I⟩ := hrel
    clear HI1
    by_cases hlt : i < k
    · have b1 : (i : Int) < (k : Int) := by omega
      have b0 : (0 : Int) ≤ (i : Int) := by omega
      have b2 : (i : Int).toNat = i := by omega
      have rc := (HRR.out.below I.gr).cell_at i hlt
      have m0 := I.a.cell0
      by_cases hz : 0 ≤ Z i
      · by_cases hz2 : Z i ≤ (r : Int) - 1
        · have hd1 : decide (Z i < 0) = false := decide_eq_false (by omega)
          have hd2 : decide ((r : Int) ≤ Z i) = false := decide_eq_false (by omega)
          have HU : Hid (upB ((r : Int) - 1) Z (i + 1) = true) := by show _ = _; rw [upB_succ, decide_eq_true hz, decide_eq_true hz2, hu]; rfl
          have HI : Hid (∀ q, PS w r c (.slice (some ⟨ba, oa, none⟩) NA cpa) (wr.drewN q)) := fun q => ⟨I.a, I.z, below_drew I.gr q⟩
          clear I hu hz hz2
          generalize Z i = zi at *
          go_wp2_with fail
          go_quiet (fail)
          go_wp2
          exact ⟨⟨i + 1, by omega, by go_num, HU.out, HI.out _⟩, by simp [intOf]; omega⟩
        · have hd1 : decide (Z i < 0) = false := decide_eq_false (by omega)
          have hd2 : decide ((r : Int) ≤ Z i) = true := decide_eq_true (by omega)
          have HU : Hid (upB ((r : Int) - 1) Z k = false) := upB_false _ Z k i hlt (by rw [decide_eq_true hz, decide_eq_false hz2]; rfl)
          have HI : Hid (∀ q, PS w r c (.slice (some ⟨ba, oa, none⟩) NA cpa) (wr.drewN q)) := fun q => ⟨I.a, I.z, below_drew I.gr q⟩
          have z0 := I.z.cell0
          have z1 := I.z.cell1
          have z2 := I.z.cell2
          have zf := I.z.free
          clear I hu hz hz2
          generalize Z i = zi at *
          go_wp2_with fail
          go_quiet (fail)
          go_wp2
          obtain ⟨hX5, g5⟩ := (HI.out nq).z.put (0 : Int) (0 : Int) (.slice none 0 0)
          exact bodyPost_ret (v := .tuple #[.agg #[.int .i64 0, .int .i64 0, .slice none 0 0], .int .i64 1]) (by simp [results, Try.results24, go_sem, hX5.cell0, hX5.cell1, hX5.cell2]) rfl ⟨.inr ⟨HU.out, rfl⟩, below_gb (HI.out nq).gr g5 (by omega) (HI.out nq).gr.size⟩
      · have hd1 : decide (Z i < 0) = true := decide_eq_true (by omega)
        have HU : Hid (upB ((r : Int) - 1) Z k = false) := upB_false _ Z k i hlt (by rw [decide_eq_false hz]; rfl)
        have HI : Hid (∀ q, PS w r c (.slice (some ⟨ba, oa, none⟩) NA cpa) (wr.drewN q)) := fun q => ⟨I.a, I.z, below_drew I.gr q⟩
        have z0 := I.z.cell0
        have z1 := I.z.cell1
        have z2 := I.z.cell2
        have zf := I.z.free
        clear I hu hz
        generalize Z i = zi at *
        go_wp2_with fail
        go_quiet (fail)
        go_wp2
        obtain ⟨hX5, g5⟩ := (HI.out nq).z.put (0 : Int) (0 : Int) (.slice none 0 0)
        exact bodyPost_ret (v := .tuple #[.agg #[.int .i64 0, .int .i64 0, .slice none 0 0], .int .i64 1]) (by simp [results, Try.results24, go_sem, hX5.cell0, hX5.cell1, hX5.cell2]) rfl ⟨.inr ⟨HU.out, rfl⟩, below_gb (HI.out nq).gr g5 (by omega) (HI.out nq).gr.size⟩
    · obtain rfl : i = k := by omega
      have b1 : ¬ (i : Int) < (i : Int) := by omega
      have m0 := I.a.cell0
      have m1 := I.a.cell1
      have HU := hide hu
      have HI := hide I
      clear I hu
      have HP : Hid (∀ t, t < i → (Z t).toNat < r ∧ (((Z t).toNat : Nat) : Int) = Z t) := fun t ht => by have := upB_at _ Z i t HU.out ht; omega
      go_wp2_with fail
      refine Calls.mono (HZ.out _) ?_
      rintro e w3 ⟨g, rfl, hG, hgs, k3⟩
      have hgs' : w.heap.size ≤ g := Nat.le_trans HI.out.gr.size hgs
      have I : OI w g N w3.heap.size r c i c (.slice (some ⟨ba, oa, none⟩) NA cpa) (mulS c Q 0 0) (w3.alloc (.cells #[.int .i64 i, .int .i64 c, .slice (some ⟨g, 0, none⟩) N N] 29)) :=
        ⟨(hG.congr (fun t _ => (mulS_zero c Q t).symm)).alloc _, (HI.out.a.below k3 (Nat.le_refl _)).alloc _, (HI.out.z.below k3 (Nat.le_refl _)).alloc _, Br.new _ _ _ _, below_alloc (below_step HI.out.gr k3) _⟩
      clear HI
      have HI := hide I
      clear I k3 hG hgs m0 m1 HZ b1
      obtain ⟨k, hk⟩ : ∃ k, k = i := ⟨_, rfl⟩
      subst hk
      go_wp2
      go_loopw [9] (fun z wr => ∃ i : Nat, i ≤ k ∧ z = .int .i64 i ∧ OI w g N w3.heap.size r c k c (.slice (some ⟨ba, oa, none⟩) NA cpa) (mulS c Q i 0) wr) (fun z _ => k - (intOf z).toNat)
      case atStart => exact ⟨0, Nat.zero_le _, rfl, HI.out⟩
      case round =>
        obtain ⟨i, hi, rfl, I⟩ := hrel
        clear HI
        by_cases hlt1 : i < k
        · have HI := hide I
          clear I
          have b0 : (i : Int) < (k : Int) := by omega
          go_wp2
          go_loopw [10] (fun z wr => ∃ j : Nat, j ≤ c ∧ z = .int .i64 j ∧ OI w g N w3.heap.size r c k c (.slice (some ⟨ba, oa, none⟩) NA cpa) (mulS c Q i j) wr) (fun z _ => c - (intOf z).toNat)
          case atStart => exact ⟨0, Nat.zero_le _, rfl, HI.out⟩
          case round =>
            obtain ⟨j, hj, rfl, I⟩ := hrel
            clear HI
            have m0 := I.a.cell0
            have m1 := I.a.cell1
            have m2 := I.a.cell2
            by_cases hlt2 : j < c
            · have m3 := I.p.cell2
              obtain ⟨x, hx⟩ : ∃ x, x = i * c := ⟨_, rfl⟩
              have hxi : (i : Int) * (c : Int) = (x : Int) := by rw [← Int.natCast_mul, hx]
              have hxN : x + j < N := by rw [hx]; exact QN.out i j hlt1 hlt2
              obtain ⟨pi, hpi⟩ : ∃ pi, pi = (Z i).toNat := ⟨_, rfl⟩
              obtain ⟨hp1, hp2⟩ := HP.out i hlt1
              rw [← hpi] at hp1 hp2
              have m4 := (HRR.out.below I.gr).cell_at i hlt1
              rw [← hp2] at m4
              obtain ⟨y, hy⟩ : ∃ y, y = A (pi * c + j) := ⟨_, rfl⟩
              obtain ⟨ov, hov⟩ : ∃ ov, ov = Value.int .i64 (((mulS c Q i j (x + j)).v : Nat) : Int) := ⟨_, rfl⟩
              have R1 : Hid (∀ (v u1 u2 : Value) (w' : World), v = .agg #[.int .i64 r, .int .i64 c, (.slice (some ⟨ba, oa, none⟩) NA cpa)] → u1 = .int .i64 ((pi : Nat) : Int) → u2 = .int .i64 j → Below wr.heap.size wr w' → Calls Try.prog 39 #[v, u1, u2] w' fun e w'' => e = .returned (.int .i64 ((y.v : Nat) : Int)) ∧ Below wr.heap.size wr w'' ∧ ((w''.cell? ⟨w.heap.size, 0, none⟩ = some (.int .i64 r) ∧ w''.cell? ⟨w.heap.size, 1, none⟩ = some (.int .i64 c) ∧ w''.cell? ⟨w.heap.size, 2, none⟩ = some (.slice (some ⟨ba, oa, none⟩) NA cpa)) ∧ w''.cell? ⟨w3.heap.size, 2, none⟩ = some (.slice (some ⟨g, 0, none⟩) N N) ∧ w''.cell? ⟨br, orr + i, none⟩ = some (.int .i64 ((pi : Nat) : Int))) ∧ w''.cell? ⟨g, x + j, none⟩ = some ov ∧ w''.frozen? ⟨g, x + j, none⟩ = false) := by
                intro v u1 u2 w' h1 h2 h3 hb
                subst h1 h2 h3
                refine (at_any (r := (r : Int)) (c := c) (i := pi) (j := j) (HA.out.below (below_step I.gr hb)) rfl (QA.out pi j hp1 hlt2) (by have := QA.out pi j hp1 hlt2; omega) (by omega)).mono ?_
                rintro e w'' ⟨rfl, q⟩
                have I' := I.below (below_step hb q)
                exact ⟨by rw [hy], below_step hb q, ⟨I'.a.mc, I'.p.cell2, by rw [hp2]; exact (HRR.out.below I'.gr).cell_at i hlt1⟩, by rw [I'.G.cell _ hxN, hov], I'.G.free _⟩
              have FIN : Hid (∀ w', Below wr.heap.size wr w' → OI w g N w3.heap.size r c k c (.slice (some ⟨ba, oa, none⟩) NA cpa) (mulS c Q i (j + 1)) (w'.setCell ⟨g, x + j, none⟩ (.int .i64 ((y.v : Nat) : Int)))) := by
                intro w' hb
                have hq : y = Q i j := by rw [hy, HQ.out, hpi]; rfl
                exact ((I.below hb).set (x + j) hxN y hgs').congr (fun t _ => by rw [hx, hq]; exact mulS_step c Q i j t hlt2)
              have na := I.a.ne I.G
              have np := I.p.ne I.G
              have nr : br ≠ g := by omega
              have b0' : (0 : Int) ≤ (i : Int) := by omega
              have b2 : (i : Int).toNat = i := by omega
              have b1 : (j : Int) < (c : Int) := by omega
              have b5 : (0 : Int) ≤ (x : Int) + (j : Int) := by omega
              have b6 : (x : Int) + (j : Int) < (N : Int) := by omega
              have b7 : ((x : Int) + (j : Int)).toNat = x + j := by omega
              have hwb : IntKind.i64.wrap ((i : Int) * (c : Int)) = (x : Int) := by rw [hxi]; exact wraps_i64 _ (by omega) (by omega)
              have hwc : IntKind.i64.wrap ((x : Int) + (j : Int)) = (x : Int) + (j : Int) := wraps_i64 _ (by omega) (by omega)
              have HB0 : Hid (Below wr.heap.size wr wr.drew) := (Below.refl _ _).drew
              clear I hx hy hov hxi hpi hp2
              go_wp2_with fail
              go_region_held3 (fun w'' => (w''.cell? ⟨w.heap.size, 0, none⟩ = some (.int .i64 r) ∧ w''.cell? ⟨w.heap.size, 1, none⟩ = some (.int .i64 c) ∧ w''.cell? ⟨w.heap.size, 2, none⟩ = some (.slice (some ⟨ba, oa, none⟩) NA cpa)) ∧ w''.cell? ⟨w3.heap.size, 2, none⟩ = some (.slice (some ⟨g, 0, none⟩) N N) ∧ w''.cell? ⟨br, orr + i, none⟩ = some (.int .i64 ((pi : Nat) : Int))) (first | assumption | exact ⟨⟨by assumption, by assumption, by assumption⟩, by assumption, by assumption⟩ | exact ⟨⟨m0, m1, m2⟩, m3, m4⟩ | exact ⟨⟨(cell_off na).trans (by assumption), (cell_off na).trans (by assumption), (cell_off na).trans (by assumption)⟩, (cell_off np).trans (by assumption), (cell_off nr).trans (by assumption)⟩)
                (first
                  | (go_at_call 39; refine (R1.out _ _ _ _ (by with_reducible rfl) (by with_reducible rfl) (by with_reducible rfl) (by first | assumption | exact HB0.out)).mono ?_; rintro e wa ⟨rfl, ka, ⟨⟨ka1, ka2, ka3⟩, ka4, ka7⟩, ka5, ka6⟩))
              all_goals
                clear R1
                go_wp2
                exact ⟨⟨j + 1, by omega, by go_num, FIN.out _ ka⟩, by simp [intOf]; omega⟩
            · obtain rfl : j = c := by omega
              have b1 : ¬ (j : Int) < (j : Int) := by omega
              have HI := hide (I.congr (G' := mulS j Q (i + 1) 0) (fun t _ => mulS_next j Q i t (by omega)))
              clear I
              go_wp2
              exact ⟨⟨i + 1, by omega, by go_num, HI.out⟩, by simp [intOf]; omega⟩
        · obtain rfl : i = k := by omega
          have b0 : ¬ (i : Int) < (i : Int) := by omega
          have p0 := I.p.cell0
          have p1 := I.p.cell1
          have p2 := I.p.cell2
          have z0 := I.z.cell0
          have z1 := I.z.cell1
          have z2 := I.z.cell2
          have zf := I.z.free
          have hne := I.z.ne I.G
          have HI := hide I
          clear I
          go_wp2
          obtain ⟨hX5, g5⟩ := HI.out.z.put (i : Int) (c : Int) (.slice (some ⟨g, 0, none⟩) N N)
          refine bodyPost_ret (v := .tuple #[.agg #[.int .i64 i, .int .i64 c, .slice (some ⟨g, 0, none⟩) N N], .int .i64 0]) (by simp [results, Try.results24, go_sem, hX5.cell0, hX5.cell1, hX5.cell2]) rfl ⟨.inl ⟨HU.out, g, rfl, ?_, hgs'⟩, below_gb HI.out.gr g5 (by omega) HI.out.gr.size⟩
          exact (HI.out.G.of_block (g5.block g HI.out.G.lt (by simp; exact fun e => hne e.symm))).congr (fun t ht => QP.out Q t ht)
end Go.Proofs.Ythedeggggbdibaa

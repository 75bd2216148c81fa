/-
  The contract of Inverse.
-/
import Derived.Test.YtfjkdmiaagalhaaGreatBeside
import Derived.Deep.RegionHeldLaw
namespace Go.Proofs.YtfjkdmiaagalhaaGreat
open Go.RowKit Go.Lib

/-- A copy whose run is known, as a step of a region that draws its order. -/
theorem step_copy_run {P : Program} {ops : Array Oper} {o : Oper} {a : Act} {w : World} {K : Act → World → Prop} {Q : Exit → Act → World → Prop} {E : Prop} (hgd : o.guard = none) (s x : Operand) (t tn : TypeId)
    (ho : o.op = .call { callee := .builtin .copy, args := #[s, x], argTypes := #[t, tn] }) (vs vx : Value) (hs : a.eval s = vs) (hx : a.eval x = vx)
    (v' : Value) (w' : World) (hr : (Builtin.copy_ #[t, tn] o.type #[vs, vx]).run P w = .ok v' w') (h : K (a.put o.dst v') w') :
    if Region.wanted o (yielded ops a.tmps) = true then Oper.wp P o a w K Q else E := by
  have hw : Region.wanted o (yielded ops a.tmps) = true := by simp [Region.wanted, hgd]
  rw [if_pos hw]
  unfold Oper.wp
  simp [execOp, ho, resolve, invoke, builtin, hs, hx, hr, Result.andThen]
  exact h
theorem copy_row {w : World} {g N y n cd b o cs : Nat} {G H : Nat → K} (hG : KB w g N G) (hR : RD w b o n H) (hy : y + n ≤ N) :
    ∃ wc, (Builtin.copy_ #[48, 48] 3 #[.slice (some ⟨g, y, none⟩) n cd, .slice (some ⟨b, o, none⟩) n cs]).run Tryz.prog w = .ok (goInt n) wc ∧ KB wc g N (splF y n H G) ∧ w.grownBy wc (some g) := by
  obtain ⟨Z, hZ⟩ := hG
  have hcp := run_copy_row (P := Tryz.prog) w 48 48 3 3 g y n cd ⟨b, o, none⟩ n cs _ 3 (kcells n H) Tryz.underlying48 Tryz.size3 hZ (by rw [kcells_length]; exact (Nat.min_self n).symm) hR.src
    (by simp [kcells_length]; omega) kcells_one
  rw [kcells_length] at hcp
  refine ⟨_, hcp, ⟨Z, ?_⟩, ⟨rfl, rfl, rfl, by simp [World.setRow], fun k _ hk => setRow_other _ g k _ (by simpa using hk)⟩⟩
  rw [setRow_heap _ g _ _ 3 _ hZ, List.append_assoc, kcells_splice _ _ Z hy]

/-- The first i rows of the inverse are laid. -/
def invF (n : Nat) (Q : Mt) (i : Nat) : Nat → K := fun t => if t / n < i then Q (t / n) (t % n) else 0
theorem invF_step (n : Nat) (Q : Mt) (i t : Nat) (hn : 0 < n) : splF (i * n) n (Q i) (invF n Q i) t = invF n Q (i + 1) t := by
  unfold splF invF
  by_cases h : i * n ≤ t ∧ t < i * n + n
  · have e := (in_row hn).1 h
    rw [if_pos h, if_pos (by omega), e, row_off e]
  · rw [if_neg h]
    have e : t / n ≠ i := fun e => h ((in_row hn).2 e)
    by_cases l : t / n < i
    · rw [if_pos l, if_pos (by omega)]
    · rw [if_neg l, if_neg (by omega)]
theorem invF_all (n : Nat) (Q : Mt) (t : Nat) (h : t < n * n) : invF n Q n t = flat n Q t := by rw [invF, if_pos (div_lt h), flat]

theorem Bx.fr {w w' : World} {B f b : Nat} {r c : Int} {v : Value} (h : Bx w b r c v) (ht : Fr B f w w') (h1 : b < B) (h2 : b ≠ f) : Bx w' b r c v := h.of_block (ht.block b h1 h2)
/-- What the loop of Inverse keeps. -/
structure InvI (w : World) (B sb f g N pb rb n W : Nat) (q cp : Nat → Nat) (R : Mt) (va : Value) (G : Nat → K) (wr : World) : Prop where
  S : SP wr sb f
  rs : RS wr B sb f rb n W q cp R
  G : KB wr g N G
  a : Bx wr w.heap.size n n va
  r : Bx wr (w.heap.size + 1) 0 0 (.slice none 0 0)
  p : Bx wr pb n n (.slice (some ⟨g, 0, none⟩) N N)
  gr : w.grownBy wr (some f)
theorem InvI.below {w : World} {B sb f g N pb rb n W : Nat} {q cp : Nat → Nat} {R : Mt} {va : Value} {G : Nat → K} {wr w' : World} (h : InvI w B sb f g N pb rb n W q cp R va G wr) (hb : Below wr.heap.size wr w') : InvI w B sb f g N pb rb n W q cp R va G w' :=
  ⟨h.S.below hb (Nat.le_refl _), h.rs.below hb, h.G.below hb (Nat.le_refl _), h.a.below hb (Nat.le_refl _), h.r.below hb (Nat.le_refl _), h.p.below hb (Nat.le_refl _), gb_trans h.gr (gb_below hb _)⟩
/-- The new block is turned: it is none of the rows. -/
theorem InvI.turn {w : World} {B sb f g N pb rb n W : Nat} {q cp : Nat → Nat} {R : Mt} {va : Value} {G G' : Nat → K} {wr w' : World} (h : InvI w B sb f g N pb rb n W q cp R va G wr) (hg : wr.grownBy w' (some g)) (hG : KB w' g N G') (hq : ∀ i, i < n → q i ≠ g) (hw : w.heap.size ≤ g) : InvI w B sb f g N pb rb n W q cp R va G' w' := by
  have s := h.S.kset h.G hg
  refine ⟨s, ⟨s, h.rs.ltS, h.rs.ltF, Nat.le_trans h.rs.ltB hg.size, h.rs.rge, (hg.block rb h.rs.rlt (by simp; intro e; have := h.rs.rows; obtain ⟨Z, hZ⟩ := h.G; rw [e, hZ] at this; simp at this)).trans h.rs.rows, fun i hi => (h.rs.each i hi).of_block (hg.block _ (h.rs.each i hi).lt (by simp; exact hq i hi)), h.rs.ge, h.rs.inj, h.rs.cap⟩, hG, h.a.of_block (hg.block _ h.a.lt (by simp; exact h.a.ne h.G)), h.r.of_block (hg.block _ h.r.lt (by simp; exact h.r.ne h.G)), h.p.of_block (hg.block _ h.p.lt (by simp; exact h.p.ne h.G)), gb_new h.gr hg hw⟩

set_option maxRecDepth 100000 in
set_option maxHeartbeats 1600000 in
theorem inverse_any {w : World} {sb f n : Nat} {va : Value} {A : Nat → K} (hS : SP w sb f) (n1 : 1 ≤ n) (n2 : n ≤ 255)
    (hA : NX w f va (n * n) (fun k => (((A k).v : Nat) : Int))) :
    Calls Tryz.prog 73 #[.pointer (some ⟨sb, 0, none⟩), .agg #[.int .i64 n, .int .i64 n, va]] w fun e w' =>
      (((redu n (wideM n A) n).2 = n ∧ ∃ g, e = .returned (.tuple #[.agg #[.int .i64 n, .int .i64 n, .slice (some ⟨g, 0, none⟩) (n * n) (n * n)], .int .i64 0]) ∧ KB w' g (n * n) (flat n (fun i j => (redu n (wideM n A) n).1 i (n + j))) ∧ w.heap.size ≤ g) ∨
       ((redu n (wideM n A) n).2 < n ∧ e = .returned (.tuple #[.agg #[.int .i64 0, .int .i64 0, .slice none 0 0], .int .i64 40]))) ∧ SP w' sb f ∧ w.grownBy w' (some f) := by
  have hNA : n * n ≤ 255 * 255 := Nat.mul_le_mul n2 n2
  have hA0 : n * n ≠ 0 := Nat.mul_ne_zero (by omega) (by omega)
  obtain ⟨ba, oa, cpa, rfl, ha3, ha4, ha5⟩ := hA.at hA0
  have EA := chk_ok n1 n2 n1 n2 A
  have HZ : Hid _ := fun w => zeros_any w n n n2 n2
  have QA : Hid (∀ i, i < n → (i + 1) * n ≤ n * n) := fun i hi => row_in hi
  have QI : Hid (∀ (Q : Mt) t, t < n * n → invF n Q n t = flat n Q t) := fun Q t ht => invF_all n Q t ht
  have HBS : Hid (∀ (w : World), SP w sb f → NX w f _ (n * n) _ → _) := fun w h1 h2 => beside_any (w := w) (A := A) (va := .slice (some ⟨ba, oa, none⟩) (n * n) cpa) h1 n1 n2 n1 n2 h2
  have hle := (red_all n (wideM n A) n).le
  obtain ⟨rk, hrk⟩ : ∃ rk, rk = (redu n (wideM n A) n).2 := ⟨_, rfl⟩
  obtain ⟨RM, hRM⟩ : ∃ RM, RM = (redu n (wideM n A) n).1 := ⟨_, rfl⟩
  rw [← hrk, ← hRM]
  rw [← hrk] at hle
  have Hrk := hide hrk
  have HRM := hide hRM
  clear hrk hRM
  generalize hN : n * n = N at *
  have hlt := hS.lt
  have hltf := hS.ltf
  have S1 := hide ((hS.alloc (.cells #[.int .i64 n, .int .i64 n, .slice (some ⟨ba, oa, none⟩) N cpa] 50)).alloc (.cells #[.int .i64 0, .int .i64 0, .slice none 0 0] 50))
  have A1 := hide ((hA.alloc (.cells #[.int .i64 n, .int .i64 n, .slice (some ⟨ba, oa, none⟩) N cpa] 50)).alloc (.cells #[.int .i64 0, .int .i64 0, .slice none 0 0] 50))
  have X1 := hide ((Bx.new w n n (.slice (some ⟨ba, oa, none⟩) N cpa)).alloc (.cells #[.int .i64 0, .int .i64 0, .slice none 0 0] 50))
  have Y1 := Bx.new (w.alloc (.cells #[.int .i64 n, .int .i64 n, .slice (some ⟨ba, oa, none⟩) N cpa] 50)) 0 0 (.slice none 0 0)
  rw [show (w.alloc (.cells #[.int .i64 n, .int .i64 n, .slice (some ⟨ba, oa, none⟩) N cpa] 50)).heap.size = w.heap.size + 1 by simp] at Y1
  have HY1 := hide Y1
  have L1 := hide (below_alloc (below_alloc (Below.refl w.heap.size w) (.cells #[.int .i64 n, .int .i64 n, .slice (some ⟨ba, oa, none⟩) N cpa] 50)) (.cells #[.int .i64 0, .int .i64 0, .slice none 0 0] 50))
  clear hS hA Y1
  go_enter Tryz.func73, Tryz.ntmps73
  go_wp2_with fail
  refine (check_any A1.out (by omega)).mono ?_
  rintro e w1 ⟨rfl, k1⟩
  rw [EA]
  have S2 := S1.out.below k1 (Nat.le_refl _)
  have A2 := A1.out.below k1
  have X2 := X1.out.below k1 (Nat.le_refl _)
  have Y2 := HY1.out.below k1 (Nat.le_refl _)
  have L2 := below_step L1.out k1
  have x0 := X2.cell0
  have x1 := X2.cell1
  have x2 := X2.cell2
  have HS2 := hide S2
  have HA2 := hide A2
  have HX2 := hide X2
  have HY2 := hide Y2
  have HL2 := hide L2
  clear S1 A1 X1 HY1 L1 k1 EA S2 A2 X2 Y2 L2
  go_wp2_with fail
  refine Calls.mono (HBS.out _ HS2.out HA2.out) ?_
  rintro e w2 ⟨rb, q, cp, rfl, hR, k2⟩
  obtain ⟨W, hW⟩ : ∃ W, W = n + n := ⟨_, rfl⟩
  rw [← hW] at hR
  have X3 := HX2.out.below k2 (Nat.le_refl _)
  have Y3 := HY2.out.below k2 (Nat.le_refl _)
  have L3 := below_step HL2.out k2
  have hB1 : w.heap.size + 1 < w1.heap.size := HY2.out.lt
  have AR : Hid (∀ w', w' = w2.drew → Calls Tryz.prog 87 #[.pointer (some ⟨sb, 0, none⟩), .slice (some ⟨rb, 0, none⟩) n n, .int .i64 n] w' fun e w'' => e = .returned (.int .i64 (rk : Int)) ∧ ((∃ q' cp', RS w'' w1.heap.size sb f rb n W q' cp' RM) ∧ Fr w1.heap.size f w2 w'') ∧ w''.cell? ⟨w.heap.size, 0, none⟩ = some (.int .i64 n) ∧ w''.cell? ⟨w.heap.size, 1, none⟩ = some (.int .i64 n)) := by
    rintro w' rfl
    refine (reduce_any (hR.drewN 1) (cols := n) (by omega) (by omega) (by omega)).mono ?_
    rw [← Hrk.out, ← HRM.out]
    rintro e w'' ⟨rfl, h1, h2⟩
    have h2' : Fr w1.heap.size f w2 w'' := ((Fr.refl _ _ w2).drewN 1).trans h2
    have X := X3.fr h2' (by omega) (by omega)
    exact ⟨rfl, ⟨h1, h2'⟩, X.cell0, X.cell1⟩
  have x0 := X3.cell0
  have x1 := X3.cell1
  have HX3 := hide X3
  have HY3 := hide Y3
  have HL3 := hide L3
  have HR := hide hR
  clear X3 Y3 L3 hR k2 HS2 HA2 HX2 HY2 HL2 HBS x2 Hrk HRM
  rcases Nat.lt_or_ge rk n with hrn | hrn
  · have hri : (rk : Int) < (n : Int) := by omega
    go_wp2_with fail
    go_region_held3 (fun w' => w'.cell? ⟨w.heap.size, 0, none⟩ = some (.int .i64 n) ∧ w'.cell? ⟨w.heap.size, 1, none⟩ = some (.int .i64 n)) (first | assumption | exact ⟨by assumption, by assumption⟩ | exact ⟨x0, x1⟩)
      (first
        | (go_at_call 87; refine (AR.out _ rfl).mono ?_; rintro e w3 ⟨rfl, k3, k31, k32⟩))
    obtain ⟨⟨q', cp', hR3⟩, f3⟩ := k3
    have Y4 := HY3.out.fr f3 (by omega) (by omega)
    have q0 := Y4.cell0
    have q1 := Y4.cell1
    have q2 := Y4.cell2
    have f2 := Y4.free
    have G4 : w.grownBy w3 (some f) := ⟨f3.os.trans HL3.out.os, f3.tape.trans HL3.out.tape, f3.output.trans HL3.out.output, Nat.le_trans HL3.out.size f3.size, fun k hk hne => (f3.block k (by omega) (by simpa using hne)).trans (HL3.out.block k hk)⟩
    have HS4 := hide hR3.S
    have HY4 := hide Y4
    have HG4 := hide G4
    clear hR3 f3 Y4 G4 AR HX3 HY3 HL3 HR k31 k32 x0 x1
    go_wp2
    obtain ⟨hX5, g5⟩ := HY4.out.put 0 0 (.slice none 0 0)
    exact bodyPost_ret (v := .tuple #[.agg #[.int .i64 0, .int .i64 0, .slice none 0 0], .int .i64 40]) (by simp [results, Tryz.results73, go_sem, hX5.cell0, hX5.cell1, hX5.cell2]) rfl ⟨.inr ⟨hrn, rfl⟩, HS4.out.set HY4.out (by decide) (by decide) (by decide) g5, gb_new HG4.out g5 (by omega)⟩
  · have hre : rk = n := by omega
    have hri : ¬ (rk : Int) < (n : Int) := by omega
    have HRE := hide hre
    clear hre hrn
    go_wp2_with fail
    go_region_held3 (fun w' => w'.cell? ⟨w.heap.size, 0, none⟩ = some (.int .i64 n) ∧ w'.cell? ⟨w.heap.size, 1, none⟩ = some (.int .i64 n)) (first | assumption | exact ⟨by assumption, by assumption⟩ | exact ⟨x0, x1⟩)
      (first
        | (go_at_call 87; refine (AR.out _ rfl).mono ?_; rintro e w3 ⟨rfl, k3, k31, k32⟩))
    obtain ⟨⟨q', cp', hR3⟩, f3⟩ := k3
    have X4 := HX3.out.fr f3 (by omega) (by omega)
    have Y4 := HY3.out.fr f3 (by omega) (by omega)
    have G4 : w.grownBy w3 (some f) := ⟨f3.os.trans HL3.out.os, f3.tape.trans HL3.out.tape, f3.output.trans HL3.out.output, Nat.le_trans HL3.out.size f3.size, fun k hk hne => (f3.block k (by omega) (by simpa using hne)).trans (HL3.out.block k hk)⟩
    have HX4 := hide X4
    have HY4 := hide Y4
    have HG4 := hide G4
    have HR3 := hide hR3
    clear hR3 f3 X4 Y4 G4 AR HX3 HY3 HL3 HR x0 x1
    go_wp2_with fail
    refine Calls.mono (HZ.out _) ?_
    rintro e w4 ⟨g, rfl, hG, hgs, k4⟩
    have hgs' : w.heap.size ≤ g := Nat.le_trans HG4.out.size hgs
    have hq : ∀ i, i < n → q' i ≠ g := fun i hi => by have := (HR3.out.each i hi).lt; omega
    have I : InvI w w1.heap.size sb f g N w4.heap.size rb n W q' cp' RM (.slice (some ⟨ba, oa, none⟩) N cpa) (invF n (fun i j => RM i (n + j)) 0) (w4.alloc (.cells #[.int .i64 n, .int .i64 n, .slice (some ⟨g, 0, none⟩) N N] 50)) :=
      have al := (Below.refl w4.heap.size w4).alloc (Nat.le_refl _) (.cells #[.int .i64 n, .int .i64 n, .slice (some ⟨g, 0, none⟩) N N] 50)
      ⟨(HR3.out.below k4).S.alloc _, (HR3.out.below k4).below al, (hG.congr (fun t _ => by rw [invF, if_neg (Nat.not_lt_zero _)])).alloc _, (HX4.out.below k4 (Nat.le_refl _)).alloc _, (HY4.out.below k4 (Nat.le_refl _)).alloc _, Bx.new _ _ _ _, gb_trans (gb_trans HG4.out (gb_below k4 _)) (gb_below al _)⟩
    have HQ := hide hq
    have HI := hide I
    clear hG hgs k4 hq I HX4 HY4 HG4 HR3 HZ k31 k32
    go_wp2
    go_loopw [40] (fun z wr => ∃ i : Nat, i ≤ n ∧ z = .int .i64 i ∧ InvI w w1.heap.size sb f g N w4.heap.size rb n W q' cp' RM (.slice (some ⟨ba, oa, none⟩) N cpa) (invF n (fun i j => RM i (n + j)) i) wr) (fun z _ => n - (intOf z).toNat)
    case atStart => exact ⟨0, Nat.zero_le _, rfl, HI.out⟩
    case round =>
      obtain ⟨i, hi, rfl, I⟩ := hrel
      clear HI
      by_cases hlt1 : i < n
      · obtain ⟨y, hy⟩ : ∃ y, y = i * n := ⟨_, rfl⟩
        have hyN : y + n ≤ N := by have := QA.out i hlt1; rw [Nat.add_mul, Nat.one_mul] at this; omega
        have cw := I.rs.cell i hlt1
        have hcp := I.rs.cap i hlt1
        have R1 : Hid (∀ (w' : World), Below wr.heap.size wr w' → Calls Tryz.prog 31 #[.agg #[.int .i64 n, .int .i64 n, .slice (some ⟨g, 0, none⟩) N N], .int .i64 i] w' fun e w'' => e = .returned (.slice (some ⟨g, y, none⟩) n n) ∧ Below wr.heap.size wr w'' ∧ w''.cell? ⟨w4.heap.size, 0, none⟩ = some (.int .i64 n) ∧ w''.cell? ⟨w4.heap.size, 1, none⟩ = some (.int .i64 n) ∧ w''.cell? ⟨w4.heap.size, 2, none⟩ = some (.slice (some ⟨g, 0, none⟩) N N) ∧ w''.cell? ⟨rb, i, none⟩ = some (.slice (some ⟨q' i, 0, none⟩) W (cp' i)) ∧ w''.cell? ⟨w.heap.size, 1, none⟩ = some (.int .i64 n)) := by
          intro w' hb
          refine (row_at w' i (x := y) (by omega) (by omega) n1 n2 (QA.out i hlt1) (Nat.le_refl _)).mono ?_
          rintro e w'' ⟨rfl, k⟩
          have k' := below_step hb k
          have I' := I.below k'
          exact ⟨rfl, k', I'.p.cell0, I'.p.cell1, I'.p.cell2, I'.rs.cell i hlt1, I'.a.cell1⟩
        have AC : Hid (∀ (w' : World) (l cs : Nat), l = n → Below wr.heap.size wr w' → ∃ wc, (Builtin.copy_ #[48, 48] 3 #[.slice (some ⟨g, y, none⟩) n n, .slice (some ⟨q' i, n, none⟩) l cs]).run Tryz.prog w' = .ok (goInt n) wc ∧ InvI w w1.heap.size sb f g N w4.heap.size rb n W q' cp' RM (.slice (some ⟨ba, oa, none⟩) N cpa) (invF n (fun i j => RM i (n + j)) (i + 1)) wc ∧ wc.cell? ⟨w4.heap.size, 0, none⟩ = some (.int .i64 n) ∧ wc.cell? ⟨w4.heap.size, 1, none⟩ = some (.int .i64 n) ∧ wc.cell? ⟨w4.heap.size, 2, none⟩ = some (.slice (some ⟨g, 0, none⟩) N N) ∧ wc.cell? ⟨rb, i, none⟩ = some (.slice (some ⟨q' i, 0, none⟩) W (cp' i)) ∧ wc.cell? ⟨w.heap.size, 1, none⟩ = some (.int .i64 n)) := by
          intro w' l cs hl hb
          subst hl
          have I' := I.below hb
          obtain ⟨wc, h1, h2, h3⟩ := copy_row (cd := l) (cs := cs) (b := q' i) (o := l) (H := fun j => RM i (l + j)) I'.G (fun j hj => (I'.rs.each i hlt1).cell (l + j) (by omega)) hyN
          have I2 := I'.turn h3 (h2.congr (f' := invF l (fun i j => RM i (l + j)) (i + 1)) (fun t _ => by rw [hy]; exact invF_step l (fun i j => RM i (l + j)) i t (by omega))) HQ.out hgs'
          exact ⟨wc, h1, I2, I2.p.cell0, I2.p.cell1, I2.p.cell2, I2.rs.cell i hlt1, I2.a.cell1⟩
        have m0 := I.p.cell0
        have m1 := I.p.cell1
        have m2 := I.p.cell2
        have m4 := I.a.cell1
        clear I hy
        have b0 : (0 : Int) ≤ (i : Int) := by omega
        have b1 : (i : Int) < (n : Int) := by omega
        have b2 : (n : Int) ≤ (W : Int) := by omega
        have b3 : n ≤ W := by omega
        have b4 : ¬ (cp' i = n) := by omega
        have b5 : W - n = n := by omega
        have b6 : (0 : Int) ≤ (n : Int) := by omega
        have hsl : ∀ w : World, (Instr.slice 48 (.slice (some ⟨q' i, 0, none⟩) W (cp' i)) (some (.int .i64 n)) none none).run Tryz.prog w = .ok (.slice (some ⟨q' i, n, none⟩) n (cp' i - n)) w := fun w => by
          rw [run_slice_l (P := Tryz.prog) (w := w) 48 _ _ _ Tryz.underlying48 .i64 n b6 b2]
          simp [go_sem, sliced, b4, b5]
        go_wp2_with fail
        go_region_held_law (fun w' => w'.cell? ⟨w4.heap.size, 0, none⟩ = some (.int .i64 n) ∧ w'.cell? ⟨w4.heap.size, 1, none⟩ = some (.int .i64 n) ∧ w'.cell? ⟨w4.heap.size, 2, none⟩ = some (.slice (some ⟨g, 0, none⟩) N N) ∧ w'.cell? ⟨rb, i, none⟩ = some (.slice (some ⟨q' i, 0, none⟩) W (cp' i)) ∧ w'.cell? ⟨w.heap.size, 1, none⟩ = some (.int .i64 n)) (first | assumption | exact ⟨by assumption, by assumption, by assumption, by assumption, by assumption⟩ | exact ⟨m0, m1, m2, cw, m4⟩)
          (first
            | (go_at_call 31; refine (R1.out _ (by first | assumption | exact (Below.refl _ _).drew)).mono ?_; rintro e wa ⟨rfl, ka, ka1, ka2, ka3, ka4, ka5⟩)
            | (obtain ⟨wc, hr, kc, kc1, kc2, kc3, kc4, kc5⟩ := AC.out _ _ _ b5 ka; refine step_copy_run rfl _ _ 48 48 rfl _ _ rfl rfl _ _ hr ?_)
            | (obtain ⟨wc, hr, kc, kc1, kc2, kc3, kc4, kc5⟩ := AC.out _ _ _ rfl ka; refine step_copy_run rfl _ _ 48 48 rfl _ _ rfl rfl _ _ hr ?_))
        all_goals
          clear R1 AC
          go_wp2
          exact ⟨⟨i + 1, by omega, by go_num, kc⟩, by simp [intOf]; omega⟩
      · obtain rfl : i = n := by omega
        have p0 := I.p.cell0
        have p1 := I.p.cell1
        have p2 := I.p.cell2
        have q0 := I.r.cell0
        have q1 := I.r.cell1
        have q2 := I.r.cell2
        have f2 := I.r.free
        have hne := I.r.ne I.G
        have HI := hide I
        clear I
        go_wp2
        obtain ⟨hX5, g5⟩ := HI.out.r.put (i : Int) (i : Int) (.slice (some ⟨g, 0, none⟩) N N)
        refine bodyPost_ret (v := .tuple #[.agg #[.int .i64 i, .int .i64 i, .slice (some ⟨g, 0, none⟩) N N], .int .i64 0]) (by simp [results, Tryz.results73, go_sem, hX5.cell0, hX5.cell1, hX5.cell2]) rfl ⟨.inl ⟨HRE.out, g, rfl, ?_, hgs'⟩, HI.out.S.set HI.out.r (by decide) (by decide) (by decide) g5, gb_new HI.out.gr g5 (by omega)⟩
        exact (HI.out.G.of_block (g5.block g HI.out.G.lt (by simp; exact fun e => hne e.symm))).congr (fun t ht => QI.out _ t ht)
end Go.Proofs.YtfjkdmiaagalhaaGreat

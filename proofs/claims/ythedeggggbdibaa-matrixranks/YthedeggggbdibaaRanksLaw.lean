/-
  The walk of MatrixRanks.
-/
import Derived.Test.YthedeggggbdibaaRanksMath
import Derived.Deep.DeepCutAuto
import Derived.Deep.CutBlock
namespace Go.Proofs.Ythedeggggbdibaa
open Go.RowKit Go.Lib

/-- An array of two numbers in a block of its own. -/
def Ax (w : World) (b : Nat) (x y : Int) : Prop := w.heap[b]? = some (.cells #[.int .i64 x, .int .i64 y] 60 (0, 0))
section
variable {w w' : World} {b : Nat} {x y : Int}
theorem Ax.lt (h : Ax w b x y) : b < w.heap.size := lt_of_block h
theorem Ax.cell0 (h : Ax w b x y) : w.cell? ⟨b, 0, none⟩ = some (.int .i64 x) := by rw [cell_of_row w b 0 _ _ _ h]; rfl
theorem Ax.cell1 (h : Ax w b x y) : w.cell? ⟨b, 1, none⟩ = some (.int .i64 y) := by rw [cell_of_row w b 1 _ _ _ h]; rfl
theorem Ax.of_block (h : Ax w b x y) (hb : w'.heap[b]? = w.heap[b]?) : Ax w' b x y := hb.trans h
theorem Ax.below {B : Nat} (h : Ax w b x y) (ht : Below B w w') (hB : w.heap.size ≤ B) : Ax w' b x y := h.of_block (ht.block b (Nat.lt_of_lt_of_le h.lt hB))
theorem Ax.alloc (h : Ax w b x y) (o : Obj) : Ax (w.alloc o) b x y := h.below ((Below.refl _ _).alloc (Nat.le_refl _) o) (Nat.le_refl _)
theorem Ax.new (w : World) (x y : Int) : Ax (w.alloc (.cells #[.int .i64 x, .int .i64 y] 60)) w.heap.size x y := heap_alloc_new w _
theorem Ax.go {sb f : Nat} (h : Ax w b x y) (hS : SP w sb f) (hg : w.grownBy w' (some f)) : Ax w' b x y := by
  refine h.of_block (hg.block b h.lt (by
    simp
    intro e
    subst e
    unfold Ax at h
    rcases hS.fl with z | ⟨_, _, z, _⟩ <;> (unfold FB at z; rw [h] at z; simp at z)))
end
theorem NX.go {w w' : World} {sb f n : Nat} {v : Value} {Z : Nat → Int} (h : NX w f v n Z) (_ : SP w sb f) (hg : w.grownBy w' (some f)) : NX w' f v n Z := h.grown hg
theorem NX.shape {w : World} {f n : Nat} {v : Value} {Z : Nat → Int} (h : NX w f v n Z) : ∃ a c, v = .slice a n c := by obtain ⟨a, c, e, _⟩ := h; exact ⟨a, c, e⟩
theorem step_world {P : Program} {ops : Array Oper} {o : Oper} {a : Act} {w V : World} {K : Act → World → Prop} {Q : Exit → Act → World → Prop} {E : Prop} (hV : w = V)
    (h : if Region.wanted o (yielded ops a.tmps) = true then Oper.wp P o a V K Q else E) : if Region.wanted o (yielded ops a.tmps) = true then Oper.wp P o a w K Q else E := by
  subst hV
  exact h

/-- What the loop keeps: the row that grows, and the matrix that waits. -/
structure Row2 (B : Nat) (W : World) (q p r c N : Nat) (A X : Nat → K) (vb : Value) (i : Nat) (v : Value) (w : World) : Prop where
  l : IL B v (vals i X) w
  b : IL B vb (vals N A) w
  ap : ∀ b, v.ownBlock = some b → vb.ownBlock ≠ some b
  xb : Bx w q ((r : Int) + 1) c vb
  xr : Bx w p 1 r v
  bl : Below B W w
theorem Row2.step {B q p r c N : Nat} {W : World} {A X : Nat → K} {vb : Value} {ao : Option Addr} {cap : Nat} (i : Nat) {wr : World} (h : Row2 B W q p r c N A X vb i (.slice ao i cap) wr) (hi : i < r) (hqp : q ≠ p) (hr : r ≤ 1000) (hB : B ≤ W.heap.size) (hp : B ≤ p) :
    ∃ ao' cap' w', (Builtin.append_ #[22, 22] 22 #[.slice ao i cap, .slice (some ⟨wr.heap.size, 0, none⟩) 1 1]).run Try.prog (wr.alloc (.cells #[.int .i64 (((X i).v : Nat) : Int)] 3)).drew = .ok (.slice ao' (i + 1) cap') w' ∧
      w'.cell? ⟨p, 2, none⟩ = some (.slice ao i cap) ∧ w'.frozen? ⟨p, 2, none⟩ = false ∧ Row2 B W q p r c N A X vb (i + 1) (.slice ao' (i + 1) cap') (w'.setCell ⟨p, 2, none⟩ (.slice ao' (i + 1) cap')) := by
  have hBs : B ≤ wr.heap.size := Nat.le_trans hB h.bl.size
  obtain ⟨v', w', h1, h2, h3, h4⟩ := (show IL B (.slice ao i cap) (vals i X) wr.drew from ⟨h.l.own⟩).one (X i).v (by rw [vals_length]; omega) hBs
  rw [vals_succ] at h2
  obtain ⟨ao', cap', rfl⟩ := h2.shape
  rw [vals_length] at h1 h2 h4
  have hal : Below wr.heap.size wr (wr.drew.alloc (.cells #[.int .i64 (((X i).v : Nat) : Int)] 3)) := ((Below.refl wr.heap.size wr).drew).alloc (Nat.le_refl _) _
  have l1 := h.l.keep hal
  have b1 := h.b.keep hal
  have xb1 := h.xb.below hal (Nat.le_refl _)
  have xr1 := h.xr.below hal (Nat.le_refl _)
  have b2 := b1.apart h3 (fun b hb e => h.ap b e hb)
  have xb2 := xb1.of_block (h3.block _ xb1.lt (xb1.neo l1).symm)
  have xr2 := xr1.of_block (h3.block _ xr1.lt (xr1.neo l1).symm)
  have bl2 := l1.below (h.bl.trans (hal.mono hBs)) h3 (Nat.le_trans hBs hal.size)
  have gs := gb_set w' p 2 (.slice ao' (i + 1) cap')
  have szb := fun b hb => (h.b.lt b hb).2
  refine ⟨ao', cap', w', h1, xr2.cell2, xr2.free 2, h2.apart gs (fun b hb e => xr2.neo h2 (hb.trans e.symm)), b2.apart gs (fun b hb e => xr2.neo b2 (hb.trans e.symm)), fun b hb e => ?_, xb2.of_block (gs.block _ xb2.lt (by simp; exact hqp)), xr2.set2 _, below_gb bl2 gs hp (Nat.le_trans hB bl2.size)⟩
  rcases h4 b hb with x | x
  · exact h.ap b x e
  · have := szb b e
    have x' : wr.heap.size ≤ b := x
    omega
/-- A list to be read, appended to an empty one of one's own. -/
theorem IL.copy2 {B f N e0 : Nat} {A : Nat → K} {w : World} {va : Value} (e6 : IL B (.slice (some ⟨e0, 0, none⟩) 0 0) [] w) (hA : NX w f va N (fun t => (((A t).v : Nat) : Int))) (h0 : N ≠ 0) (hN : N ≤ 1000) (hB : B ≤ w.heap.size) :
    ∃ ao cap w', (Builtin.append_ #[22, 22] 22 #[.slice (some ⟨e0, 0, none⟩) 0 0, va]).run Try.prog w.drew = .ok (.slice ao N cap) w' ∧ IL B (.slice ao N cap) (vals N A) w' ∧ w.grownBy w' (Value.slice (some ⟨e0, 0, none⟩) 0 0).ownBlock := by
  obtain ⟨bl, off, c, rfl, hc, hbl, hf⟩ := hA.at h0
  obtain ⟨v', w', h1, h2, h3, h4, h5⟩ := e6.drew.app (a := ⟨bl, off, none⟩) (c := c) (vals N A) (fun t u hu => by
    have ht := ints_lt hu
    rw [vals_length] at ht
    rw [vals_get? N A t ht] at hu
    cases hu
    rw [Addr.add_mid]
    exact hA.cell_at t ht) (by rw [vals_length, List.length_nil]; omega) hB
  rw [vals_length] at h1
  rw [List.nil_append] at h2
  obtain ⟨ao, cap, rfl⟩ := h2.shape
  rw [vals_length] at h1 h2
  exact ⟨ao, cap, w', h1, h2, ⟨h3.os, h3.tape, h3.output, h3.size, h3.block⟩⟩
def xr (y0 y1 : Int) : Nat → K := fun t => ⟨amg (if t % 2 = 0 then y0 else y1) 256, (amg_spec _ 256 (by decide)).2.1⟩

set_option maxRecDepth 100000 in
set_option maxHeartbeats 1600000 in
theorem ranks_walk (s0 s1 y0 y1 : Int) {w : World} {vl : Value} {n : Nat} {Z : Nat → Int} (hl : NX w w.heap.size vl n Z) (hn : n ≤ 140737488355328) :
    Calls Try.prog 7 #[.agg #[.int .i64 s0, .int .i64 s1], vl, .agg #[.int .i64 y0, .int .i64 y1]] w fun e w' => e = .returned (.bool true) ∧ Below w.heap.size w w' := by
  obtain ⟨al, cl, rfl, _⟩ := id hl
  obtain ⟨_, r2, _, _⟩ := amg_spec s0 5 (by decide)
  obtain ⟨_, c2, _, _⟩ := amg_spec s1 5 (by decide)
  have CM : Hid (∀ w' : World, NX w' w'.heap.size (.slice al n cl) n Z → _) := fun w' h => made_any (w := w') s0 s1 h hn
  generalize amg s0 5 = ra at *
  generalize amg s1 5 = ca at *
  obtain ⟨r, hr⟩ : ∃ r, r = 1 + ra := ⟨_, rfl⟩
  obtain ⟨c, hc⟩ : ∃ c, c = 1 + ca := ⟨_, rfl⟩
  obtain ⟨A, hA⟩ : ∃ A, A = mk n Z := ⟨_, rfl⟩
  rw [← hr, ← hc, ← hA] at CM
  have r1 : 1 ≤ r := by omega
  have c1 : 1 ≤ c := by omega
  have r5 : r ≤ 5 := by omega
  have c5 : c ≤ 5 := by omega
  clear hr hc hA r2 c2
  obtain ⟨rk, hrk⟩ : ∃ rk, rk = (redu r (mt c A) c).2 := ⟨_, rfl⟩
  obtain ⟨rr, rc⟩ := rank_le r c A
  rw [← hrk] at rr rc
  have CT : Hid (∀ (w' : World) (f : Nat) (v : Value), NX w' f v (r * c) _ → _) := fun w' f v h => turn_ok (w := w') (f := f) (va := v) (A := A) r1 (by omega) c1 (by omega) h
  have CR : Hid (∀ (w' : World) (sb f : Nat) (v : Value), SP w' sb f → NX w' f v (r * c) _ → _) := fun w' sb f v hS h => rank_ok (w := w') (sb := sb) (f := f) (va := v) (A := A) hS r1 (by omega) c1 (by omega) h
  have CRT : Hid (∀ (w' : World) (sb f : Nat) (v : Value), SP w' sb f → NX w' f v (c * r) _ → _) := fun w' sb f v hS h => rank_ok (w := w') (sb := sb) (f := f) (va := v) (A := flat r (fun i j => mt c A j i)) hS c1 (by omega) r1 (by omega) h
  rw [rank_turned, ← hrk] at CRT
  rw [← hrk] at CR
  have CI : Hid (r = c → ∀ (w' : World) (sb f : Nat) (v : Value), SP w' sb f → NX w' f v (r * c) (fun t => (((A t).v : Nat) : Int)) → Calls Try.prog 15 #[.pointer (some ⟨sb, 0, none⟩), .agg #[.int .i64 r, .int .i64 c, v]] w' fun e w'' => (∃ e1 e2 a l cp h bb, e = .returned (.tuple #[.agg #[.int .i64 e1, .int .i64 e2, .slice a l cp], .int .i64 h]) ∧ (h == 0) = bb ∧ ((rk : Int) == (r : Int)) = bb) ∧ SP w'' sb f ∧ w'.grownBy w'' (some f)) := by
    intro e w' sb f v hS h
    subst e
    refine (inverse_any (A := A) hS r1 (by omega) h).mono ?_
    rw [wide_rank_eq, ← hrk]
    rintro e w'' ⟨⟨h1, g, rfl, _⟩ | ⟨h1, rfl⟩, hS', hg⟩
    · exact ⟨⟨_, _, _, _, _, _, true, rfl, rfl, by simp [h1]⟩, hS', hg⟩
    · exact ⟨⟨_, _, _, _, _, _, false, rfl, rfl, by simp; omega⟩, hS', hg⟩
  have CX : Hid (∀ (w' : World) (sb f : Nat) (v v' : Value), SP w' sb f → NX w' f v r (fun t => (((xr y0 y1 t).v : Nat) : Int)) → NX w' f v' (r * c) _ → _) := fun w' sb f v v' hS h h' => mul_mat (w := w') (sb := sb) (f := f) (ra := 1) (ca := r) (cb := c) (va := v) (vb := v') (A := xr y0 y1) (B := A) hS (by decide) (by decide) r1 (by omega) c1 (by omega) (by rw [Nat.one_mul]; exact h) h'
  rw [Nat.one_mul, show ((1 : Nat) : Int) = 1 from rfl] at CX
  have CB : Hid (∀ (w' : World) (sb f : Nat) (v : Value), SP w' sb f → NX w' f v ((r + 1) * c) _ → _) := fun w' sb f v hS h => rank_ok (w := w') (sb := sb) (f := f) (va := v) (A := moreF (r * c) A (flat c (mm r (mt r (xr y0 y1)) (mt c A)))) hS (by omega) (by omega) c1 (by omega) h
  rw [rank_more, ← hrk, show (r + 1) * c = r * c + c by rw [Nat.add_mul, Nat.one_mul], show ((r + 1 : Nat) : Int) = (r : Int) + 1 from rfl] at CB
  obtain ⟨MM, hMM⟩ : ∃ MM, MM = flat c (mm r (mt r (xr y0 y1)) (mt c A)) := ⟨_, rfl⟩
  rw [← hMM] at CX CB
  obtain ⟨TA, hTA⟩ : ∃ TA, TA = flat r (fun i j => mt c A j i) := ⟨_, rfl⟩
  rw [← hTA] at CT CRT
  have hN0 : r * c ≠ 0 := Nat.mul_ne_zero (by omega) (by omega)
  have hN25 : r * c ≤ 5 * 5 := Nat.mul_le_mul r5 c5
  have hM25 : c * r ≤ 5 * 5 := Nat.mul_le_mul c5 r5
  generalize r * c = N at *
  generalize c * r = N' at *
  clear hrk hMM hTA
  have HL := hide hl
  clear hl
  have b1 : ¬ ((rk : Int) > (r : Int)) := by omega
  have b2 : ¬ ((rk : Int) > (c : Int)) := by omega
  have A1 := hide ((Ax.new w s0 s1).alloc (.cells #[.int .i64 y0, .int .i64 y1] 60))
  have Y1 := Ax.new (w.alloc (.cells #[.int .i64 s0, .int .i64 s1] 60)) y0 y1
  rw [show (w.alloc (.cells #[.int .i64 s0, .int .i64 s1] 60)).heap.size = w.heap.size + 1 by simp] at Y1
  have HY1 := hide Y1
  have L1 := hide (below_alloc (below_alloc (Below.refl w.heap.size w) (.cells #[.int .i64 s0, .int .i64 s1] 60)) (.cells #[.int .i64 y0, .int .i64 y1] 60))
  clear Y1
  go_enter Try.func7, Try.ntmps7
  go_wp2_with fail
  refine (mnew_any _).mono ?_
  rintro e w1 ⟨sb, f, rfl, hS, hf, hsb, k1⟩
  have hfw : w.heap.size ≤ f := Nat.le_trans L1.out.size hf
  have a2 := A1.out.below k1 (Nat.le_refl _)
  have y2 := HY1.out.below k1 (Nat.le_refl _)
  have l2 := below_step L1.out k1
  have HS2 := hide hS
  have HA2 := hide a2
  have HY2 := hide y2
  have HL2 := hide l2
  clear hS hf hsb k1 A1 HY1 L1 a2 y2 l2
  go_wp2_with fail
  refine (mworks_any _).mono ?_
  rintro e w2 ⟨rfl, k2⟩
  have a3 := HA2.out.below k2 (Nat.le_refl _)
  have s_0 := a3.cell0
  have s_1 := a3.cell1
  have HS0 := hide (HS2.out.below k2 (Nat.le_refl _))
  have HYB0 := hide (HY2.out.below k2 (Nat.le_refl _))
  have HL0 := hide (below_step HL2.out k2)
  have hl3 := hide (HL.out.up HL0.out)
  clear k2 HS2 HA2 HY2 HL2 a3
  go_wp2_with fail
  refine Calls.mono (CM.out _ hl3.out) ?_
  rintro e w3 ⟨va, rfl, hna, k3⟩
  have na := hna f HS0.out.ltf
  obtain ⟨aa, ac, rfl⟩ := na.shape
  have gf := gb_below k3 (some f)
  have S1 := (HS0.out.below k3 (Nat.le_refl _)).alloc (.cells #[.int .i64 r, .int .i64 c, .slice aa N ac] 24)
  have L1 := below_alloc (below_step HL0.out k3) (.cells #[.int .i64 r, .int .i64 c, .slice aa N ac] 24)
  have YB1 := (HYB0.out.go HS0.out gf).alloc (.cells #[.int .i64 r, .int .i64 c, .slice aa N ac] 24)
  have NA1 := (na).alloc (.cells #[.int .i64 r, .int .i64 c, .slice aa N ac] 24)
  have BA1 := Bx.new w3 r c (.slice aa N ac)
  have HS1 := hide S1
  have HL1 := hide L1
  have HYB1 := hide YB1
  have HNA1 := hide NA1
  have HBA1 := hide BA1
  clear gf S1 L1 YB1 NA1 BA1 HS0 HL0 HYB0
  clear hna na k3 hl3 s_0 s_1 CM
  have ba_0 := HBA1.out.cell0
  have ba_1 := HBA1.out.cell1
  have ba_2 := HBA1.out.cell2
  go_wp2_with fail
  refine Calls.mono (CT.out _ _ _ HNA1.out) ?_
  rintro e w4 ⟨gt, rfl, hT, hts, k4⟩
  have gf := gb_below k4 (some f)
  have S2 := (HS1.out.below k4 (Nat.le_refl _)).alloc (.cells #[.int .i64 c, .int .i64 r, .slice (some ⟨gt, 0, none⟩) N' N'] 24)
  have L2 := below_alloc (below_step HL1.out k4) (.cells #[.int .i64 c, .int .i64 r, .slice (some ⟨gt, 0, none⟩) N' N'] 24)
  have YB2 := (HYB1.out.go HS1.out gf).alloc (.cells #[.int .i64 c, .int .i64 r, .slice (some ⟨gt, 0, none⟩) N' N'] 24)
  have NA2 := (HNA1.out.go HS1.out gf).alloc (.cells #[.int .i64 c, .int .i64 r, .slice (some ⟨gt, 0, none⟩) N' N'] 24)
  have BA2 := (HBA1.out.go HS1.out gf).alloc (.cells #[.int .i64 c, .int .i64 r, .slice (some ⟨gt, 0, none⟩) N' N'] 24)
  have T2 := (hT).alloc (.cells #[.int .i64 c, .int .i64 r, .slice (some ⟨gt, 0, none⟩) N' N'] 24)
  have BT2 := Bx.new w4 c r (.slice (some ⟨gt, 0, none⟩) N' N')
  have HS2 := hide S2
  have HL2 := hide L2
  have HYB2 := hide YB2
  have HNA2 := hide NA2
  have HBA2 := hide BA2
  have HT2 := hide T2
  have HBT2 := hide BT2
  clear gf S2 L2 YB2 NA2 BA2 T2 BT2 HS1 HL1 HYB1 HNA1 HBA1
  clear hT hts k4 CT ba_0 ba_1 ba_2
  have ba_0 := HBA2.out.cell0
  have ba_1 := HBA2.out.cell1
  have ba_2 := HBA2.out.cell2
  go_wp2_with fail
  refine Calls.mono (CR.out _ _ _ _ HS2.out HNA2.out) ?_
  rintro e w5 ⟨rfl, hS5, g5⟩
  have gf := g5
  have S3 := (hS5)
  have L3 := below_gb HL2.out g5 hfw HL2.out.size
  have YB3 := (HYB2.out.go HS2.out gf)
  have NA3 := (HNA2.out.go HS2.out gf)
  have BA3 := (HBA2.out.go HS2.out gf)
  have T3 := (HT2.out.go HS2.out gf)
  have BT3 := (HBT2.out.go HS2.out gf)
  have HS3 := hide S3
  have HL3 := hide L3
  have HYB3 := hide YB3
  have HNA3 := hide NA3
  have HBA3 := hide BA3
  have HT3 := hide T3
  have HBT3 := hide BT3
  clear gf S3 L3 YB3 NA3 BA3 T3 BT3 HS2 HL2 HYB2 HNA2 HBA2 HT2 HBT2
  clear hS5 g5 CR ba_0 ba_1 ba_2
  have bt_0 := HBT3.out.cell0
  have bt_1 := HBT3.out.cell1
  have bt_2 := HBT3.out.cell2
  go_wp2_with fail
  refine Calls.mono (CRT.out _ _ _ _ HS3.out (HT3.out.nx (Nat.le_refl _) (HS3.out.kne HT3.out))) ?_
  rintro e w6 ⟨rfl, hS5, g5⟩
  have gf := g5
  have S4 := (hS5)
  have L4 := below_gb HL3.out g5 hfw HL3.out.size
  have YB4 := (HYB3.out.go HS3.out gf)
  have NA4 := (HNA3.out.go HS3.out gf)
  have BA4 := (HBA3.out.go HS3.out gf)
  have T4 := (HT3.out.go HS3.out gf)
  have BT4 := (HBT3.out.go HS3.out gf)
  have HS4 := hide S4
  have HL4 := hide L4
  have HYB4 := hide YB4
  have HNA4 := hide NA4
  have HBA4 := hide BA4
  have HT4 := hide T4
  have HBT4 := hide BT4
  clear gf S4 L4 YB4 NA4 BA4 T4 BT4 HS3 HL3 HYB3 HNA3 HBA3 HT3 HBT3
  clear hS5 g5 CRT HT4 HBT4 bt_0 bt_1 bt_2
  have ba_0 := HBA4.out.cell0
  have ba_1 := HBA4.out.cell1
  have ba_2 := HBA4.out.cell2
  obtain ⟨mn, hmn⟩ : ∃ mn : Int, (if c < r then (c : Int) else (r : Int)) = mn := ⟨_, rfl⟩
  have hmk : ¬ (mn < (rk : Int)) := by rw [← hmn]; split <;> omega
  go_upto_if 80 with fail
  go_cut [15, 16] (fun _ _ wx => SP wx sb f ∧ NX wx f (.slice aa N ac) N (fun t => (((A t).v : Nat) : Int)) ∧ Bx wx w3.heap.size r c (.slice aa N ac) ∧ Ax wx (w.heap.size + 1) y0 y1 ∧ Below w.heap.size w wx)
  case first =>
    by_cases hrc : r = c
    · have HRC := hide hrc
      have hbt : (r = c) = True := eq_true hrc
      have hbi : ((r : Int) == (c : Int)) = true := by simp [hrc]
      have hbj : (r == c) = true := by simp [hrc]
      have hbk : decide (r = c) = true := by simp [hrc]
      have hbl : ((r : Int) = (c : Int)) = True := eq_true (by rw [hrc])
      clear hrc
      go_wp2_with fail
      refine Calls.mono (CI.out HRC.out _ _ _ _ HS4.out HNA4.out) ?_
      rintro e w7 ⟨⟨e1, e2, a7, l7, cp7, h7, bb, rfl, hb1, hb2⟩, hS5, g5⟩
      have gf := g5
      have S5 := (hS5).alloc (.cells #[.int .i64 e1, .int .i64 e2, .slice a7 l7 cp7] 24)
      have L5 := below_alloc (below_gb HL4.out g5 hfw HL4.out.size) (.cells #[.int .i64 e1, .int .i64 e2, .slice a7 l7 cp7] 24)
      have YB5 := (HYB4.out.go HS4.out gf).alloc (.cells #[.int .i64 e1, .int .i64 e2, .slice a7 l7 cp7] 24)
      have NA5 := (HNA4.out.go HS4.out gf).alloc (.cells #[.int .i64 e1, .int .i64 e2, .slice a7 l7 cp7] 24)
      have BA5 := (HBA4.out.go HS4.out gf).alloc (.cells #[.int .i64 e1, .int .i64 e2, .slice a7 l7 cp7] 24)
      have BI5 := Bx.new w7 e1 e2 (.slice a7 l7 cp7)
      have HS5 := hide S5
      have HL5 := hide L5
      have HYB5 := hide YB5
      have HNA5 := hide NA5
      have HBA5 := hide BA5
      have HBI5 := hide BI5
      clear gf S5 L5 YB5 NA5 BA5 BI5 HS4 HL4 HYB4 HNA4 HBA4
      clear hS5 g5 CI HBI5 ba_0 ba_1 ba_2
      have ba_0 := HBA5.out.cell0
      have ba_1 := HBA5.out.cell1
      have ba_2 := HBA5.out.cell2
      have FIN : Hid (SP _ sb f ∧ NX _ f (.slice aa N ac) N (fun t => (((A t).v : Nat) : Int)) ∧ Bx _ w3.heap.size r c (.slice aa N ac) ∧ Ax _ (w.heap.size + 1) y0 y1 ∧ Below w.heap.size w _) := ⟨HS5.out, HNA5.out, HBA5.out, HYB5.out, HL5.out⟩
      cases bb
      · have hb4 : ¬ (rk = r) := by intro e; rw [e] at hb2; simp at hb2
        have hb3 : ¬ (h7 = 0) := by simpa using hb1
        go_wp2
        go_meet
        case rel => exact FIN.out
      · obtain rfl : h7 = 0 := by simpa using hb1
        have hb4 : (rk = r) = True := eq_true (by have h9 : ((rk : Int) = (r : Int)) := (by simpa using hb2); exact Int.ofNat.inj h9)
        clear hb1
        go_wp2
        go_meet
        case rel => exact FIN.out
    · clear CI
      go_wp2
      go_meet
      case rel => exact ⟨HS4.out, HNA4.out, HBA4.out, HYB4.out, HL4.out⟩
  case rest =>
    clear HS4 HNA4 HBA4 HYB4 HL4 ba_0 ba_1 ba_2 CI hmn hmk
    obtain ⟨S9, N9, X9, Y9, L9⟩ := hcut
    obtain ⟨W, hW⟩ : ∃ W, W = wc := ⟨_, rfl⟩
    rw [← hW] at S9 N9 X9 Y9 L9 ⊢
    clear hW
    have HS := hide S9
    have HN := hide N9
    have HX := hide X9
    have HY := hide Y9
    have HLw := hide L9
    clear S9 N9 X9 Y9 L9
    go_upto_region 14 with fail
    go_cut [17] (fun bv wx => ∃ q ab cb, bv = .pointer (some ⟨q, 0, none⟩) ∧ IL W.heap.size (.slice ab N cb) (vals N A) wx ∧ Bx wx q ((r : Int) + 1) c (.slice ab N cb) ∧ W.heap.size ≤ q ∧ Below W.heap.size W wx)
    case first =>
      have N9 := HN.out
      have e1 : IL W.heap.size (.slice (some ⟨W.heap.size, 0, none⟩) 0 0) [] (W.alloc (.cells #[] 3)) := IL.empty (Nat.le_refl _)
      have bl1 : Below W.heap.size W (W.alloc (.cells #[] 3)) := (Below.refl _ _).alloc (Nat.le_refl _) _
      have bl2 : Below W.heap.size W ((W.alloc (.cells #[] 3)).alloc (.cells #[.int .i64 0, .int .i64 0, .slice none 0 0] 24)) := below_alloc bl1 _
      have bl3 : Below W.heap.size W (W.alloc (.cells #[.int .i64 0, .int .i64 0, .slice none 0 0] 24)) := (Below.refl _ _).alloc (Nat.le_refl _) _
      have bl4 : Below W.heap.size W ((W.alloc (.cells #[.int .i64 0, .int .i64 0, .slice none 0 0] 24)).alloc (.cells #[] 3)) := below_alloc bl3 _
      have e2 := e1.keep ((Below.refl _ (W.alloc (.cells #[] 3))).alloc (Nat.le_refl _) (.cells #[.int .i64 0, .int .i64 0, .slice none 0 0] 24))
      have e4 : IL W.heap.size (.slice (some ⟨W.heap.size + 1, 0, none⟩) 0 0) [] ((W.alloc (.cells #[.int .i64 0, .int .i64 0, .slice none 0 0] 24)).alloc (.cells #[] 3)) := by
        have := IL.empty (B := W.heap.size) (w := W.alloc (.cells #[.int .i64 0, .int .i64 0, .slice none 0 0] 24)) (by simp)
        rwa [show (W.alloc (.cells #[.int .i64 0, .int .i64 0, .slice none 0 0] 24)).heap.size = W.heap.size + 1 by simp] at this
      obtain ⟨ab1, cb1, q1, hr1, i1, g1⟩ := e1.copy2 (N9.below bl1) hN0 (by omega) (by simp)
      obtain ⟨ab2, cb2, q2, hr2, i2, g2⟩ := e2.copy2 (N9.below bl2) hN0 (by omega) (by simp; omega)
      obtain ⟨ab4, cb4, q4, hr4, i4, g4⟩ := e4.copy2 (N9.below bl4) hN0 (by omega) (by simp; omega)
      have z2 := Bx.new (W.alloc (.cells #[] 3)) 0 0 (.slice none 0 0)
      rw [show (W.alloc (.cells #[] 3)).heap.size = W.heap.size + 1 by simp] at z2
      have z4 := (Bx.new W 0 0 (.slice none 0 0)).alloc (.cells #[] 3)
      have z2' := z2.of_block (g2.block _ z2.lt (z2.neo e2).symm)
      have z4' := z4.of_block (g4.block _ z4.lt (z4.neo e4).symm)
      obtain ⟨t2, gg2⟩ := z2'.put ((r : Int) + 1) c (.slice ab2 N cb2)
      obtain ⟨t4, gg4⟩ := z4'.put ((r : Int) + 1) c (.slice ab4 N cb4)
      have k1 := e1.below bl1 g1 (by simp)
      have k2 := e2.below bl2 g2 (by simp; omega)
      have k4 := e4.below bl4 g4 (by simp; omega)
      have xs0 := HX.out
      have x1 := xs0.below bl1 (Nat.le_refl _)
      have x2 := xs0.below bl2 (Nat.le_refl _)
      have x3 := xs0.below bl3 (Nat.le_refl _)
      have x4 := xs0.below bl4 (Nat.le_refl _)
      have y1 := xs0.below k1 (Nat.le_refl _)
      have y2 := xs0.below k2 (Nat.le_refl _)
      have y4 := xs0.below k4 (Nat.le_refl _)
      have y5 := y1.alloc (.cells #[.int .i64 0, .int .i64 0, .slice none 0 0] 24)
      have y6 := y1.alloc (.cells #[.int .i64 ((r : Int) + 1), .int .i64 c, .slice ab1 N cb1] 24)
      have hxl := xs0.lt
      have y7 := y2.of_block (gg2.block _ y2.lt (by simp; omega))
      have y8 := y4.of_block (gg4.block _ y4.lt (by simp; omega))
      have K_xs0 := hide (show _ ∧ _ ∧ _ from ⟨xs0.cell0, xs0.cell1, xs0.cell2⟩)
      have K_x1 := hide (show _ ∧ _ ∧ _ from ⟨x1.cell0, x1.cell1, x1.cell2⟩)
      have K_x2 := hide (show _ ∧ _ ∧ _ from ⟨x2.cell0, x2.cell1, x2.cell2⟩)
      have K_x3 := hide (show _ ∧ _ ∧ _ from ⟨x3.cell0, x3.cell1, x3.cell2⟩)
      have K_x4 := hide (show _ ∧ _ ∧ _ from ⟨x4.cell0, x4.cell1, x4.cell2⟩)
      have K_y1 := hide (show _ ∧ _ ∧ _ from ⟨y1.cell0, y1.cell1, y1.cell2⟩)
      have K_y2 := hide (show _ ∧ _ ∧ _ from ⟨y2.cell0, y2.cell1, y2.cell2⟩)
      have K_y4 := hide (show _ ∧ _ ∧ _ from ⟨y4.cell0, y4.cell1, y4.cell2⟩)
      have K_y5 := hide (show _ ∧ _ ∧ _ from ⟨y5.cell0, y5.cell1, y5.cell2⟩)
      have K_y6 := hide (show _ ∧ _ ∧ _ from ⟨y6.cell0, y6.cell1, y6.cell2⟩)
      have K_y7 := hide (show _ ∧ _ ∧ _ from ⟨y7.cell0, y7.cell1, y7.cell2⟩)
      have K_y8 := hide (show _ ∧ _ ∧ _ from ⟨y8.cell0, y8.cell1, y8.cell2⟩)
      obtain ⟨o20, o21, o22⟩ := z2'.mc
      obtain ⟨o40, o41, o42⟩ := z4'.mc
      have fr2 := z2'.free
      have fr4 := z4'.free
      have F1 : Hid (∃ q ab cb, (Value.pointer (some ⟨q1.heap.size, 0, none⟩)) = .pointer (some ⟨q, 0, none⟩) ∧ IL W.heap.size (.slice ab N cb) (vals N A) (q1.alloc (.cells #[.int .i64 ((r : Int) + 1), .int .i64 c, .slice ab1 N cb1] 24)) ∧ Bx (q1.alloc (.cells #[.int .i64 ((r : Int) + 1), .int .i64 c, .slice ab1 N cb1] 24)) q ((r : Int) + 1) c (.slice ab N cb) ∧ W.heap.size ≤ q ∧ Below W.heap.size W (q1.alloc (.cells #[.int .i64 ((r : Int) + 1), .int .i64 c, .slice ab1 N cb1] 24))) := ⟨_, ab1, cb1, rfl, i1.keep ((Below.refl _ _).alloc (Nat.le_refl _) _), Bx.new _ _ _ _, k1.size, below_alloc k1 _⟩
      have F2 : Hid (IL W.heap.size (.slice ab2 N cb2) (vals N A) _ ∧ Bx _ (W.heap.size + 1) ((r : Int) + 1) c (.slice ab2 N cb2) ∧ Below W.heap.size W _) := ⟨i2.apart gg2 (fun b hb e => z2'.neo i2 (hb.trans e.symm)), t2, below_gb k2 gg2 (by omega) k2.size⟩
      have F4 : Hid (IL W.heap.size (.slice ab4 N cb4) (vals N A) _ ∧ Bx _ W.heap.size ((r : Int) + 1) c (.slice ab4 N cb4) ∧ Below W.heap.size W _) := ⟨i4.apart gg4 (fun b hb e => z4'.neo i4 (hb.trans e.symm)), t4, below_gb k4 gg4 (Nat.le_refl _) k4.size⟩
      have g0 : IntKind.i64.wrap ((r : Int) + 1) = (r : Int) + 1 := wraps_i64 _ (by omega) (by omega)
      have hr1 := hide hr1
      have hr2 := hide hr2
      have hr4 := hide hr4
      clear N9 e1 bl1 bl2 bl3 bl4 e2 e4 i1 i2 i4 g1 g2 g4 z2 z4 z2' z4' t2 gg2 t4 gg4 k1 k2 k4 xs0 x1 x2 x3 x4 y1 y2 y4 y5 y6 y7 y8
      go_region_held_law (fun w' => w'.cell? ⟨w3.heap.size, 0, none⟩ = some (.int .i64 r) ∧ w'.cell? ⟨w3.heap.size, 1, none⟩ = some (.int .i64 c) ∧ w'.cell? ⟨w3.heap.size, 2, none⟩ = some (.slice aa N ac)) (first | assumption | exact ⟨by assumption, by assumption, by assumption⟩ | exact K_xs0.out | exact K_x1.out | exact K_x2.out | exact K_x3.out | exact K_x4.out | exact K_y1.out | exact K_y2.out | exact K_y4.out | exact K_y5.out | exact K_y6.out | exact K_y7.out | exact K_y8.out)
        (first | (refine step_world (V := (W.alloc (.cells #[] 3)).drew) (by with_reducible rfl) ?_; refine step_append_run rfl _ _ 22 22 rfl _ _ rfl rfl _ _ hr1.out ?_) | (refine step_world (V := ((W.alloc (.cells #[] 3)).alloc (.cells #[.int .i64 0, .int .i64 0, .slice none 0 0] 24)).drew) (by with_reducible rfl) ?_; refine step_append_run rfl _ _ 22 22 rfl _ _ rfl rfl _ _ hr2.out ?_) | (refine step_world (V := ((W.alloc (.cells #[.int .i64 0, .int .i64 0, .slice none 0 0] 24)).alloc (.cells #[] 3)).drew) (by with_reducible rfl) ?_; refine step_append_run rfl _ _ 22 22 rfl _ _ rfl rfl _ _ hr4.out ?_))
      all_goals
        go_wp2
        go_meet
        case rel => first | exact F1.out | exact ⟨_, _, _, rfl, F2.out.1, F2.out.2.1, by omega, F2.out.2.2⟩ | exact ⟨_, _, _, rfl, F4.out.1, F4.out.2.1, Nat.le_refl _, F4.out.2.2⟩
    case rest =>
      obtain ⟨q, ab, cb, rfl, i8, x8, hq, k8⟩ := hcut
      obtain ⟨w8, hw8⟩ : ∃ w8, w8 = wc := ⟨_, rfl⟩
      rw [← hw8] at i8 x8 k8 ⊢
      clear hw8
      have a8 := HX.out.below k8 (Nat.le_refl _)
      have z8 := Bx.new w8 1 r (.slice none 0 0)
      have a9 := a8.alloc (.cells #[.int .i64 1, .int .i64 r, .slice none 0 0] 24)
      have R0 : Row2 W.heap.size W q w8.heap.size r c N A (xr y0 y1) (.slice ab N cb) 0 (.slice none 0 0) (w8.alloc (.cells #[.int .i64 1, .int .i64 r, .slice none 0 0] 24)) := ⟨IL.nil _ _, i8.keep ((Below.refl _ _).alloc (Nat.le_refl _) _), fun b h => by simp [Value.ownBlock] at h, x8.alloc _, z8, below_alloc k8 _⟩
      have m0 := a8.cell0
      have m1 := a9.cell0
      have HR0 := hide R0
      have hq8 : q ≠ w8.heap.size := by have := x8.lt; omega
      have hw8 : W.heap.size ≤ w8.heap.size := k8.size
      clear i8 x8 k8 a8 z8 a9 R0
      go_wp2
      go_loopw [109] (fun z wr => ∃ (i : Nat) (v : Value), i ≤ r ∧ z = .int .i64 i ∧ Row2 W.heap.size W q w8.heap.size r c N A (xr y0 y1) (.slice ab N cb) i v wr) (fun z _ => r - (intOf z).toNat)
      case atStart => exact ⟨0, _, Nat.zero_le _, rfl, HR0.out⟩
      case round =>
        obtain ⟨i, v, hi, rfl, hR⟩ := hrel
        clear HR0 m0 m1
        obtain ⟨ao, cap, rfl⟩ := hR.l.shape
        rw [vals_length] at hR
        by_cases hlt : i < r
        · obtain ⟨im, him⟩ : ∃ im, im = i % 2 := ⟨_, rfl⟩
          obtain ⟨yv, hyv⟩ : ∃ yv, yv = if i % 2 = 0 then y0 else y1 := ⟨_, rfl⟩
          have hY := HY.out.below hR.bl (Nat.le_refl _)
          have cy : wr.cell? ⟨w.heap.size + 1, im, none⟩ = some (.int .i64 yv) := by
            rcases Nat.mod_two_eq_zero_or_one i with h | h
            · rw [him, hyv, h, if_pos rfl]; exact hY.cell0
            · rw [him, hyv, h, if_neg (by decide)]; exact hY.cell1
          have cq : ∀ o : Obj, (wr.alloc o).cell? ⟨w.heap.size + 1, im, none⟩ = some (.int .i64 yv) := fun o => (cell_congr (((Below.refl wr.heap.size wr).alloc (Nat.le_refl _) o).block _ hY.lt)).trans cy
          have him1 : im < 2 := by omega
          have f1 : (i : Int).tmod 2 = (im : Int) := by rw [him, Int.tmod_eq_emod_of_nonneg (by omega)]; rfl
          have g3 : (0 : Int) ≤ (im : Int) := by omega
          have g4 : (im : Int) < 2 := by omega
          have AX : Hid (∀ w : World, Calls Try.prog 30 #[.int .i64 yv, .int .i64 256] w fun e w' => e = .returned (.int .i64 (((xr y0 y1 i).v : Nat) : Int)) ∧ w' = w) := fun w => by rw [hyv]; exact among_any w _ 256 (by decide) (by decide)
          obtain ⟨ao', cap', w', hr, yc1, yc2, fin⟩ := hR.step i hlt hq8 (by omega) (Nat.le_refl _) hw8
          have HF := hide fin
          have hr := hide hr
          have m2 := hR.xr.cell2
          have m3 := (hR.xr.alloc (.cells #[.int .i64 (((xr y0 y1 i).v : Nat) : Int)] 3)).cell2
          have b9 : (i : Int) < (r : Int) := by omega
          clear him hyv hY hR fin
          generalize (xr y0 y1 i).v = mm at *
          go_wp2
          go_region_law (first | (refine step_world (V := (wr.alloc (.cells #[.int .i64 (mm : Int)] 3)).drew) (by with_reducible rfl) ?_; refine step_append_run rfl _ _ 22 22 rfl _ _ rfl rfl _ _ hr.out ?_) | (go_simp; go_at_call 30; refine Calls.mono (AX.out _) ?_; rintro e wz ⟨rfl, hwz⟩; subst wz; dsimp only))
          all_goals
            go_wp2
            exact ⟨⟨i + 1, _, by omega, by go_num, HF.out⟩, by simp [intOf]; omega⟩
        · obtain rfl : i = r := by omega
          have hfW : f < W.heap.size := HS.out.ltf
          have S8 := HS.out.below hR.bl (Nat.le_refl _)
          have N8 := HN.out.below hR.bl
          have A8 := HX.out.below hR.bl (Nat.le_refl _)
          obtain ⟨a0, a1, a2⟩ := A8.mc
          obtain ⟨p0, p1, p2⟩ := hR.xr.mc
          have CC : Hid _ := CX.out wr sb f (.slice ao i cap) (.slice aa N ac) S8 (hR.l.knx hfW) N8
          have HR := hide hR
          have HS8 := hide S8
          clear hR S8 N8 A8 CX
          go_wp2_with fail
          refine Calls.mono CC.out ?_
          rintro e w9 ⟨gm, rfl, hM, hms, S9, g9⟩
          have b9 := (HR.out.b.go g9 hfW).keep ((Below.refl _ w9).alloc (Nat.le_refl _) (.cells #[.int .i64 1, .int .i64 c, .slice (some ⟨gm, 0, none⟩) c c] 24))
          have x9 := (HR.out.xb.go HS8.out g9).alloc (.cells #[.int .i64 1, .int .i64 c, .slice (some ⟨gm, 0, none⟩) c c] 24)
          have z9 := Bx.new w9 1 c (.slice (some ⟨gm, 0, none⟩) c c)
          have M9 := hM.alloc (.cells #[.int .i64 1, .int .i64 c, .slice (some ⟨gm, 0, none⟩) c c] 24)
          have s9 := S9.alloc (.cells #[.int .i64 1, .int .i64 c, .slice (some ⟨gm, 0, none⟩) c c] 24)
          have hWw : W.heap.size ≤ wr.heap.size := HR.out.bl.size
          have hsz := g9.size
          have k9 : w.heap.size ≤ W.heap.size := HLw.out.size
          have l9 : Below w.heap.size w (w9.alloc (.cells #[.int .i64 1, .int .i64 c, .slice (some ⟨gm, 0, none⟩) c c] 24)) := below_alloc (below_gb (below_step HLw.out HR.out.bl) g9 hfw (by omega)) _
          obtain ⟨v', w11, hr, h2, h3, _, _⟩ := b9.app (a := ⟨gm, 0, none⟩) (c := c) (vals c MM) (fun t u hu => by
            have ht := ints_lt hu
            rw [vals_length] at ht
            rw [vals_get? c MM t ht] at hu
            cases hu
            rw [Addr.add_mid, Nat.zero_add]
            exact M9.cell t ht) (by rw [vals_length, vals_length]; omega) (by simp; omega)
          rw [vals_app] at h2
          obtain ⟨ao2, cap2, rfl⟩ := h2.shape
          rw [vals_length] at hr h2
          rw [vals_length] at hr
          have x11 := x9.of_block (h3.block _ x9.lt (x9.neo b9).symm)
          have o11 := fun b hb => (b9.lt b hb).1
          have s11 : SP w11 sb f := by
            refine ⟨s9.b.of_block (h3.block _ s9.lt (fun e => ?_)), ?_, s9.ne⟩
            · have := o11 sb e.symm; have := HS.out.lt; omega
            · rcases s9.fl with z | ⟨t, h1, h2', h3'⟩
              · exact .inl (z.of_block (h3.block _ z.lt (fun e => by have := o11 f e.symm; omega)))
              · refine .inr ⟨t, h1, h2'.of_block (h3.block _ h2'.lt (fun e => by have := o11 f e.symm; omega)), h3'.of_block (h3.block _ h3'.lt (fun e => ?_))⟩
                obtain ⟨_, ⟨e', _⟩ | ⟨g', _, _, e', _, hg', _⟩⟩ := b9.own
                · rw [e'] at e; simp [Value.ownBlock] at e
                · rw [e'] at e; simp only [Value.ownBlock, Option.some.injEq] at e; subst e; unfold TB at h3'; rw [hg'] at h3'; simp at h3'
          have l11 := l9.grown h3 (by simp; omega) (fun k hk => by have := o11 k hk; omega)
          have gs := gb_set w11 q 2 (.slice ao2 (N + c) cap2)
          have x12 := x11.set2 (.slice ao2 (N + c) cap2)
          have h12 := h2.apart gs (fun b hb e => x11.neo h2 (hb.trans e.symm))
          have s12 := s11.set x11 (by decide) (by decide) (by decide) gs
          have l12 := below_gb l11 gs (by omega) (by have := l11.size; omega)
          have CR : Hid _ := CB.out _ sb f (.slice ao2 (N + c) cap2) s12 (h12.knx hfW)
          obtain ⟨t0, t1, t2⟩ := z9.mc
          have r2 := x9.cell2
          have u2 := x11.cell2
          have f2 := x11.free
          obtain ⟨v0, v1, v2⟩ := x12.mc
          have HL12 := hide l12
          have hrr := hide hr
          clear CC HR HS8 a0 a1 a2 p0 p1 p2 hM hms S9 g9 b9 x9 z9 M9 s9 l9 h2 h3 x11 s11 l11 gs x12 h12 s12 l12 CB o11 hr HS HN HX HY HLw
          go_wp2_with (at_builtin; refine Lib.wpList_append_run _ rfl _ _ _ _ rfl _ _ rfl rfl _ _ hrr.out ?_)
          refine Calls.mono CR.out ?_
          rintro e w13 ⟨rfl, _, g13⟩
          go_wp2
          go_ret
          exact ⟨rfl, below_gb HL12.out g13 hfw HL12.out.size⟩
end Go.Proofs.Ythedeggggbdibaa

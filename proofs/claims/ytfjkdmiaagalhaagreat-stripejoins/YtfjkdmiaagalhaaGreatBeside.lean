/-
  The contract of besideOne.
-/
import Derived.Test.YtfjkdmiaagalhaaGreatApp
namespace Go.Proofs.YtfjkdmiaagalhaaGreat
open Go.RowKit Go.Lib

/-- An append whose run is known, as a step of a region that draws its order. -/
theorem step_append_run {P : Program} {ops : Array Oper} {o : Oper} {a : Act} {w : World} {K : Act → World → Prop} {Q : Exit → Act → World → Prop} {E : Prop} (hgd : o.guard = none) (s x : Operand) (t tn : TypeId)
    (ho : o.op = .call { callee := .builtin .append, args := #[s, x], argTypes := #[t, tn] }) (vs vx : Value) (hs : a.eval s = vs) (hx : a.eval x = vx)
    (v' : Value) (w' : World) (hr : (Builtin.append_ #[t, tn] o.type #[vs, vx]).run P w = .ok v' w') (h : K (a.put o.dst v') w') :
    if Region.wanted o (yielded ops a.tmps) = true then Oper.wp P o a w K Q else E := by
  have hw : Region.wanted o (yielded ops a.tmps) = true := by simp [Region.wanted, hgd]
  rw [if_pos hw]
  exact wp_append_run w s x t tn ho vs vx hs hx v' w' hr h

def wideM (c : Nat) (A : Nat → K) : Mt := fun t k => if k < c then A (t * c + k) else dl t (k - c)
theorem Bd.congr {w : World} {B sb f rb m W i : Nat} {q cp : Nat → Nat} {R R' : Mt} (h : Bd B sb f rb m W i q cp R w) (e : ∀ t, t < i → ∀ k, k < W → R t k = R' t k) : Bd B sb f rb m W i q cp R' w :=
  ⟨h.S, h.ltS, h.ltF, h.ltB, h.rge, h.rows, fun t ht => (h.each t ht).congr (fun k hk => e t ht k hk), h.ge, h.inj, h.cap⟩
theorem Bd.drewN {w : World} {B sb f rb m W i : Nat} {q cp : Nat → Nat} {R : Mt} (h : Bd B sb f rb m W i q cp R w) (n : Nat) : Bd B sb f rb m W i q cp R (w.drewN n) :=
  ⟨⟨h.S.b, h.S.fl, h.S.ne⟩, h.ltS, h.ltF, h.ltB, h.rge, h.rows, h.each, h.ge, h.inj, h.cap⟩
theorem Bd.set {w : World} {B sb f rb m W i : Nat} {q cp : Nat → Nat} {R : Mt} (h : Bd B sb f rb m W i q cp R w) {s x : Nat} (hs : s < i) (hx : x < W) (v : K) :
    Bd B sb f rb m W i q cp (fun t k => if t = s ∧ k = x then v else R t k) (w.setCell ⟨q s, x, none⟩ (.int .i64 ((v.v : Nat) : Int))) := by
  have gs := gb_set w (q s) x (.int .i64 ((v.v : Nat) : Int))
  have ks := h.each s hs
  refine ⟨h.S.kset ks gs, h.ltS, h.ltF, Nat.le_trans h.ltB gs.size, h.rge, (gs.block rb h.rlt (by simp; exact fun e => h.ne ks e.symm)).trans h.rows, fun t ht => ?_, h.ge, h.inj, h.cap⟩
  by_cases e : t = s
  · subst e
    exact (ks.set x hx v).congr (fun k _ => by simp)
  · have kt := h.each t ht
    exact (kt.of_block (gs.block _ kt.lt (by simp; exact fun z => e (h.inj t s ht hs z)))).congr (fun k _ => by rw [if_neg (fun z => e z.1)])

set_option maxRecDepth 100000 in
set_option maxHeartbeats 1600000 in
theorem beside_any {w : World} {sb f r c : Nat} {va : Value} {A : Nat → K} (hS : SP w sb f) (a1 : 1 ≤ r) (a2 : r ≤ 255) (c1 : 1 ≤ c) (c2 : c ≤ 255)
    (hA : NX w f va (r * c) (fun k => (((A k).v : Nat) : Int))) :
    Calls Tryz.prog 86 #[.agg #[.int .i64 r, .int .i64 c, va]] w fun e w' =>
      ∃ rb q cp, e = .returned (.slice (some ⟨rb, 0, none⟩) r r) ∧ RS w' w.heap.size sb f rb r (c + r) q cp (wideM c A) ∧ Below w.heap.size w w' := by
  have hNA : r * c ≤ 255 * 255 := Nat.mul_le_mul a2 c2
  have hA0 : r * c ≠ 0 := Nat.mul_ne_zero (by omega) (by omega)
  obtain ⟨ba, oa, cpa, rfl, ha3, ha4, ha5⟩ := hA.at hA0
  have QA : Hid (∀ i, i < r → (i + 1) * c ≤ r * c) := fun i hi => row_in hi
  generalize r * c = NA at *
  obtain ⟨W, hW⟩ : ∃ W, W = c + r := ⟨_, rfl⟩
  rw [← hW]
  have hlt := hS.lt
  have hltf := hS.ltf
  have S1 := hS.alloc (.cells #[.int .i64 r, .int .i64 c, .slice (some ⟨ba, oa, none⟩) NA cpa] 50)
  have X1 := Bx.new w r c (.slice (some ⟨ba, oa, none⟩) NA cpa)
  have L1 := below_alloc (Below.refl w.heap.size w) (.cells #[.int .i64 r, .int .i64 c, .slice (some ⟨ba, oa, none⟩) NA cpa] 50)
  have HA := hide hA
  have hmk : ∀ w : World, _ := fun w => run_make_row' (P := Tryz.prog) 149 48 (.slice none 0 0) 24 Tryz.underlying149 Tryz.info48 rfl .i64 .i64 r (by omega) (by omega) w
  have I : ∃ q cp, Bd w.heap.size sb f (w.heap.size + 1) r W 0 q cp (wideM c A) ((w.alloc (.cells #[.int .i64 r, .int .i64 c, .slice (some ⟨ba, oa, none⟩) NA cpa] 50)).alloc (.cells (madeCells #[.slice none 0 0] r) 48)) := by
    refine ⟨fun _ => 0, fun _ => 0, S1.alloc _, hlt, hltf, by simp; omega, by omega, ?_, fun t ht => absurd ht (Nat.not_lt_zero t), fun t ht => absurd ht (Nat.not_lt_zero t), fun t _ ht => absurd ht (Nat.not_lt_zero t), fun t ht => absurd ht (Nat.not_lt_zero t)⟩
    rw [made_rows r W (fun _ => 0) (fun _ => 0)]
    have := heap_alloc_new (w.alloc (.cells #[.int .i64 r, .int .i64 c, .slice (some ⟨ba, oa, none⟩) NA cpa] 50)) (.cells (rowsP r W 0 (fun _ => 0) (fun _ => 0)).toArray 48)
    simp only [show (w.alloc (.cells #[.int .i64 r, .int .i64 c, .slice (some ⟨ba, oa, none⟩) NA cpa] 50)).heap.size = w.heap.size + 1 by simp] at this
    exact this
  have HI := hide I
  have HX := hide (X1.alloc (.cells (madeCells #[.slice none 0 0] r) 48))
  have HL := hide (below_alloc L1 (.cells (madeCells #[.slice none 0 0] r) 48))
  have HWW := hide hW
  have hWi : (c : Int) + (r : Int) = (W : Int) := by omega
  clear I S1 X1 L1 hS hA hW
  go_enter Tryz.func86, Tryz.ntmps86
  go_wp2
  go_loopw [10] (fun z wr => ∃ i : Nat, i ≤ r ∧ z = .int .i64 i ∧ (∃ q cp, Bd w.heap.size sb f (w.heap.size + 1) r W i q cp (wideM c A) wr) ∧ Bx wr w.heap.size r c (.slice (some ⟨ba, oa, none⟩) NA cpa) ∧ Below w.heap.size w wr) (fun z _ => r - (intOf z).toNat)
  case atStart => exact ⟨0, Nat.zero_le _, rfl, HI.out, HX.out, HL.out⟩
  case round =>
    obtain ⟨i, hi, rfl, ⟨q, cp, hB⟩, hX, hL⟩ := hrel
    clear HI HX HL
    by_cases hlt1 : i < r
    · obtain ⟨x, hx⟩ : ∃ x, x = oa + i * c := ⟨_, rfl⟩
      have z1 := hB.cell i hlt1
      rw [if_neg (Nat.lt_irrefl i)] at z1
      have R1 : Hid (∀ (w' : World), Below wr.heap.size wr w' → Calls Tryz.prog 31 #[.agg #[.int .i64 r, .int .i64 c, .slice (some ⟨ba, oa, none⟩) NA cpa], .int .i64 i] w' fun e w'' => e = .returned (.slice (some ⟨ba, x, none⟩) c c) ∧ Below wr.heap.size wr w'' ∧ w''.cell? ⟨w.heap.size, 0, none⟩ = some (.int .i64 r) ∧ w''.cell? ⟨w.heap.size, 1, none⟩ = some (.int .i64 c) ∧ w''.cell? ⟨w.heap.size, 2, none⟩ = some (.slice (some ⟨ba, oa, none⟩) NA cpa)) := by
        intro w' hb
        refine (row_at w' i hx (by omega) c1 c2 (QA.out i hlt1) ha3).mono ?_
        rintro e w'' ⟨rfl, k⟩
        have k' := below_step hb k
        have X := hX.below k' (Nat.le_refl _)
        exact ⟨rfl, k', X.cell0, X.cell1, X.cell2⟩
      have AW : Hid (∀ (w' : World), Below wr.heap.size wr w' → ∃ cap wc, (Builtin.append_ #[48, 3] 48 #[.slice (some ⟨ba, x, none⟩) c c, .int .i64 r]).run Tryz.prog w' = .ok (.slice (some ⟨w'.heap.size, 0, none⟩) W cap) wc ∧ (KB wc w'.heap.size W (fun k => if k < c then A (i * c + k) else 0) ∧ W ≤ cap ∧ Below wr.heap.size wr wc ∧ wr.heap.size ≤ w'.heap.size) ∧ wc.cell? ⟨w.heap.size, 0, none⟩ = some (.int .i64 r) ∧ wc.cell? ⟨w.heap.size, 1, none⟩ = some (.int .i64 c) ∧ wc.cell? ⟨w.heap.size, 2, none⟩ = some (.slice (some ⟨ba, oa, none⟩) NA cpa) ∧ wc.cell? ⟨w.heap.size + 1, i, none⟩ = some (.slice none 0 0) ∧ wc.frozen? ⟨w.heap.size + 1, i, none⟩ = false) := by
        intro w' hb
        have hrd : RD w' ba x c (fun k => A (i * c + k)) := fun l hl => by
          have := (HA.out.grown (gb_below (below_step hL hb) (some f))).cell_at (i * c + l) (Nat.lt_of_lt_of_le (by rw [Nat.add_mul, Nat.one_mul]; omega) (QA.out i hlt1))
          rw [show x + l = oa + (i * c + l) by omega]
          exact this
        obtain ⟨cap, wc, h1, h2, h3, h4⟩ := append_wide hrd c1 c2 a1 a2
        rw [← HWW.out] at h1 h2 h3
        have k' := below_step hb h4
        have X := hX.below k' (Nat.le_refl _)
        have B' := hB.below k'
        exact ⟨cap, wc, h1, ⟨h2, h3, k', hb.size⟩, X.cell0, X.cell1, X.cell2, by rw [B'.cell i hlt1, if_neg (Nat.lt_irrefl i)], B'.free i⟩
      have m0 := hX.cell0
      have m1 := hX.cell1
      have m2 := hX.cell2
      have HB := hide hB
      have HX := hide hX
      have HL := hide hL
      have np : w.heap.size ≠ w.heap.size + 1 := by omega
      have b0 : (0 : Int) ≤ (i : Int) := by omega
      have b1 : (i : Int) < (r : Int) := by omega
      clear hB hX hL hx
      go_wp2_with fail
      go_region_held3 (fun w' => w'.cell? ⟨w.heap.size, 0, none⟩ = some (.int .i64 r) ∧ w'.cell? ⟨w.heap.size, 1, none⟩ = some (.int .i64 c) ∧ w'.cell? ⟨w.heap.size, 2, none⟩ = some (.slice (some ⟨ba, oa, none⟩) NA cpa)) (first | assumption | exact ⟨by assumption, by assumption, by assumption⟩ | exact ⟨m0, m1, m2⟩ | exact ⟨(cell_off np).trans (by assumption), (cell_off np).trans (by assumption), (cell_off np).trans (by assumption)⟩)
        (first
          | (go_at_call 31; refine (R1.out _ (by first | assumption | exact (Below.refl _ _).drew)).mono ?_; rintro e wa ⟨rfl, ka, ka1, ka2, ka3⟩)
          | (obtain ⟨cap, wc, hr, kc, kc1, kc2, kc3, kc4, kc5⟩ := AW.out _ ka; refine step_append_run rfl _ _ 48 3 rfl _ _ rfl rfl _ _ hr ?_))
      obtain ⟨kK, kcap, kL, kge⟩ := kc
      have hq : ∀ t, t < i → q t < wa.heap.size := fun t ht => Nat.lt_of_lt_of_le (HB.out.each t ht).lt kge
      have B4 : Bd w.heap.size sb f (w.heap.size + 1) r W i q cp (fun t => if t = i then (fun k => if k < c then A (i * c + k) else 0) else wideM c A t) wc := (HB.out.below kL).congr (fun t ht k _ => by rw [if_neg (by omega)])
      have B5 := B4.put (g := wa.heap.size) (c := cap) (by rw [if_pos rfl]; exact kK) (Nat.le_trans HB.out.ltB kge) hq kcap
      have gs := gb_set wc (w.heap.size + 1) i (.slice (some ⟨wa.heap.size, 0, none⟩) W cap)
      have X5 := (HX.out.below kL (Nat.le_refl _)).of_block (gs.block _ (HX.out.below kL (Nat.le_refl _)).lt (by simp))
      have L5 := below_gb (below_step HL.out kL) gs (by omega) (Nat.le_trans HL.out.size kL.size)
      have y1 := B5.cell i hlt1
      rw [if_pos (by omega), up_at, up_at] at y1
      have K5 := B5.each i (by omega)
      rw [up_at, if_pos rfl] at K5
      have hciW : c + i < W := by rw [HWW.out]; omega
      have y2 := K5.cell (c + i) hciW
      have y3 := K5.free (c + i)
      have y4 := X5.cell1
      have HB5 := hide B5
      have HX5 := hide X5
      have HL5 := hide L5
      generalize wc.setCell ⟨w.heap.size + 1, i, none⟩ (.slice (some ⟨wa.heap.size, 0, none⟩) W cap) = w5 at *
      clear kK kcap kL kge hq B4 B5 gs X5 L5 K5 HB HX HL R1 AW ka ka1 ka2 ka3 hr kc1 kc2 kc3 kc4 kc5 m0 m1 m2 z1
      generalize wa.heap.size = g at *
      have d0 : (0 : Int) ≤ (c : Int) + (i : Int) := by omega
      have d1 : (c : Int) + (i : Int) < (W : Int) := by omega
      have d2 : ((c : Int) + (i : Int)).toNat = c + i := by omega
      go_wp2
      go_region
      have B6 := (HB5.out.set (s := i) (x := c + i) (by omega) hciW 1).drewN 1
      rw [up_at] at B6
      have gs := gb_set w5 g (c + i) (.int .i64 1)
      have hgg := HB5.out.each i (by omega)
      rw [up_at] at hgg
      have X6 : Bx ((w5.setCell ⟨g, c + i, none⟩ (.int .i64 1)).drewN 1) w.heap.size r c (.slice (some ⟨ba, oa, none⟩) NA cpa) := HX5.out.of_block (gs.block _ HX5.out.lt (by simp; exact HX5.out.ne hgg))
      have hge := HB5.out.ge i (by omega)
      rw [up_at] at hge
      have L6 := below_drew (below_gb HL5.out gs hge HL5.out.size) 1
      have HB6 := hide B6
      have HX6 := hide X6
      have HL6 := hide L6
      clear B6 X6 L6 gs hgg hge HB5 HX5 HL5 y1 y2 y3 y4
      go_wp2
      refine ⟨⟨i + 1, by omega, by go_num, ⟨_, _, HB6.out.congr (fun t ht k hk => ?_)⟩, HX6.out, HL6.out⟩, by simp [intOf]; omega⟩
      by_cases e : t = i
      · subst e
        simp only [true_and, if_true]
        unfold wideM
        by_cases l : k < c
        · rw [if_neg (by omega), if_pos l, if_pos l]
        · rw [if_neg l, if_neg l]
          by_cases e2 : k = c + t
          · rw [if_pos e2, e2, show c + t - c = t by omega, dl_self]
          · rw [if_neg e2, dl_ne (by omega)]
      · simp only [e, false_and, if_false]
    · obtain rfl : i = r := by omega
      have HB := hide hB.all
      have HL := hide hL
      clear hB hX hL
      go_wp2
      go_ret
      exact ⟨_, q, cp, rfl, HB.out, HL.out⟩
end Go.Proofs.YtfjkdmiaagalhaaGreat

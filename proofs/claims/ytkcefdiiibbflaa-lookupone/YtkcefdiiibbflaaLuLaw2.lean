/-
  Lookup: the order of items is one of its kind: the statement's walk.
-/
import Derived.Test.YtkcefdiiibbflaaLuWork
import Derived.Test.YtkcefdiiibbflaaLuEq
import Derived.Test.YtkcefdiiibbflaaLuLaw1
namespace Go.Proofs.Ytkcefdiiibbflaa
open Go.RowKit Go.Lib
/-- Three items in variables of their own. -/
def K3 (w : World) (X Y Z : IT) (wx : World) : Prop := K2 w X Y wx ∧ wx.cell? ⟨w.heap.size + 1 + 1, 0, none⟩ = some (.string Z.id) ∧ wx.cell? ⟨w.heap.size + 1 + 1, 1, none⟩ = some (.string Z.pk) ∧ wx.cell? ⟨w.heap.size + 1 + 1, 2, none⟩ = some (.int .i64 Z.kind) ∧ wx.cell? ⟨w.heap.size + 1 + 1, 3, none⟩ = some (.int .i64 Z.off) ∧ wx.cell? ⟨w.heap.size + 1 + 1, 4, none⟩ = some (.int .i64 Z.long) ∧ wx.cell? ⟨w.heap.size + 1 + 1, 5, none⟩ = some (.int .i64 Z.size)
theorem K3.step {w wx wy : World} {X Y Z : IT} (h : K3 w X Y Z wx) (k : Below wx.heap.size wx wy) : K3 w X Y Z wy := by
  obtain ⟨h0, x0, x1, x2, x3, x4, x5⟩ := h
  have hc : ∀ (a : Addr) (v : Value), wx.cell? a = some v → wy.cell? a = some v := fun a v e => by
    refine (k.cell (p := a) ?_).trans e
    rcases Nat.lt_or_ge a.block wx.heap.size with h | h
    · exact h
    · simp [World.cell?, Array.getElem?_eq_none h] at e
  exact ⟨h0.step k, hc _ _ x0, hc _ _ x1, hc _ _ x2, hc _ _ x3, hc _ _ x4, hc _ _ x5⟩
theorem K3.start (w : World) (X Y Z : IT) : K3 w X Y Z (((w.alloc (.cells (it6 X).toArray 25)).alloc (.cells (it6 Y).toArray 25)).alloc (.cells (it6 Z).toArray 25)) := by
  have h2 := (K2.start w X Y).step ((Below.refl _ _).alloc (Nat.le_refl _) (.cells (it6 Z).toArray 25))
  have k0 : (((w.alloc (.cells (it6 X).toArray 25)).alloc (.cells (it6 Y).toArray 25)).alloc (.cells (it6 Z).toArray 25)).heap[w.heap.size + 1 + 1]? = some (.cells (it6 Z).toArray 25 (0, 0)) := by
    have := heap_alloc_new ((w.alloc (.cells (it6 X).toArray 25)).alloc (.cells (it6 Y).toArray 25)) (.cells (it6 Z).toArray 25)
    simpa using this
  obtain ⟨x0, x1, x2, x3, x4, x5⟩ := c6_of k0
  exact ⟨h2, x0, x1, x2, x3, x4, x5⟩
set_option maxRecDepth 100000 in
set_option maxHeartbeats 3200000 in
/-- One way through: what the three pairs answer. -/
theorem one_way (X Y Z : IT) (w : World) (a b c d s : Bool) (ha : lI X Y = a) (hb : lI Y X = b) (hc : lI Y Z = c) (hd : lI X Z = d) (hs : decide (X = Y) = s)
    (hG : (a = true ∧ b = false ∧ s = false ∧ (c = true → d = true)) ∨ (a = false ∧ b = true ∧ s = false) ∨ (a = false ∧ b = false ∧ s = true)) :
    Calls Try.prog 4 #[.agg (it6 X).toArray, .agg (it6 Y).toArray, .agg (it6 Z).toArray] w fun e w' => e = .returned (.bool true) ∧ Below w.heap.size w w' := by
  have AW : Hid (∀ (wx : World), K3 w X Y Z wx → Calls Try.prog 9 #[] wx fun e wy => e = .returned (.bool true) ∧ K3 w X Y Z wy) := hide fun wx h =>
    (works_any wx).mono fun _ _ ⟨he, hk⟩ => ⟨he, h.step hk⟩
  have L : ∀ (P Q : IT) (t : Bool), lI P Q = t → Hid (∀ (u v : Value) (wx : World), u = .agg (it6 P).toArray → v = .agg (it6 Q).toArray → K3 w X Y Z wx → Calls Try.prog 7 #[u, v] wx fun e wy => e = .returned (.bool t) ∧ K3 w X Y Z wy) := fun P Q t ht => hide fun u v wx hu hv h => by
    subst hu hv
    rw [← ht]
    exact (less_any P Q wx).mono fun _ _ ⟨he, hk⟩ => ⟨he, h.step hk⟩
  have AA := L X Y a ha
  have AB := L Y X b hb
  have AC := L Y Z c hc
  have AD := L X Z d hd
  have AX := L X X false (lI_irrefl X)
  have q := fun W => eqIt X Y W
  rw [hs] at q
  have KD : Hid (∀ wx, K3 w X Y Z wx → K3 w X Y Z wx.drew) := hide fun wx h => h.step (Below.refl _ _).drew
  have K0 := K3.start w X Y Z
  obtain ⟨U, hU⟩ : ∃ U, U = ((w.alloc (.cells (it6 X).toArray 25)).alloc (.cells (it6 Y).toArray 25)).alloc (.cells (it6 Z).toArray 25) := ⟨_, rfl⟩
  rw [← hU] at K0
  have HU := hide hU
  clear hU L ha hb hc hd hs
  obtain ⟨xi, xp, xk, xo, xl, xs⟩ := X
  obtain ⟨yi, yp, yk, yo, yl, ys⟩ := Y
  obtain ⟨zi, zp, zk, zo, zl, zs⟩ := Z
  have S0 := hide K0
  clear K0
  simp only [it6] at *
  go_enter Try.func4, Try.ntmps4
  go_upto_region 1 with fail
  rw [← HU.out]
  go_upto_region 3 with (go_at_call 9; refine (AW.out _ S0.out).mono ?_; rintro e w1 ⟨rfl, h1⟩)
  have S1 := hide h1
  have S2 := hide (KD.out _ h1)
  clear h1 S0
  simp only [K3, K2] at S1 S2 AA AB
  go_region_held3 (fun wx => (Hid (Below w.heap.size w wx) ∧ wx.cell? ⟨w.heap.size, 0, none⟩ = some (.string xi) ∧ wx.cell? ⟨w.heap.size, 1, none⟩ = some (.string xp) ∧ wx.cell? ⟨w.heap.size, 2, none⟩ = some (.int .i64 xk) ∧ wx.cell? ⟨w.heap.size, 3, none⟩ = some (.int .i64 xo) ∧ wx.cell? ⟨w.heap.size, 4, none⟩ = some (.int .i64 xl) ∧ wx.cell? ⟨w.heap.size, 5, none⟩ = some (.int .i64 xs) ∧ wx.cell? ⟨w.heap.size + 1, 0, none⟩ = some (.string yi) ∧ wx.cell? ⟨w.heap.size + 1, 1, none⟩ = some (.string yp) ∧ wx.cell? ⟨w.heap.size + 1, 2, none⟩ = some (.int .i64 yk) ∧ wx.cell? ⟨w.heap.size + 1, 3, none⟩ = some (.int .i64 yo) ∧ wx.cell? ⟨w.heap.size + 1, 4, none⟩ = some (.int .i64 yl) ∧ wx.cell? ⟨w.heap.size + 1, 5, none⟩ = some (.int .i64 ys)) ∧ wx.cell? ⟨w.heap.size + 1 + 1, 0, none⟩ = some (.string zi) ∧ wx.cell? ⟨w.heap.size + 1 + 1, 1, none⟩ = some (.string zp) ∧ wx.cell? ⟨w.heap.size + 1 + 1, 2, none⟩ = some (.int .i64 zk) ∧ wx.cell? ⟨w.heap.size + 1 + 1, 3, none⟩ = some (.int .i64 zo) ∧ wx.cell? ⟨w.heap.size + 1 + 1, 4, none⟩ = some (.int .i64 zl) ∧ wx.cell? ⟨w.heap.size + 1 + 1, 5, none⟩ = some (.int .i64 zs)) (first | assumption | with_reducible exact S1.out | with_reducible exact S2.out)
    (first
      | (go_at_call 7; refine (AA.out _ _ _ (by with_reducible rfl) (by with_reducible rfl) (by assumption)).mono ?_; rintro e wc ⟨rfl, kc⟩)
      | (go_at_call 7; refine (AB.out _ _ _ (by with_reducible rfl) (by with_reducible rfl) (by assumption)).mono ?_; rintro e wc ⟨rfl, kc⟩))
  have SC := hide kc
  clear AA AB AW KD S1 S2
  simp only [K3, K2] at AX AC AD
  obtain ⟨⟨_, x0, x1, x2, x3, x4, x5, y0, y1, y2, y3, y4, y5⟩, z0, z1, z2, z3, z4, z5⟩ := kc
  rcases hG with ⟨rfl, rfl, rfl, hcd⟩ | ⟨rfl, rfl, rfl⟩ | ⟨rfl, rfl, rfl⟩
  · cases c with
    | false =>
    go_wp2_with (first
      | (go_at_call 7; refine (AX.out _ _ _ (by with_reducible rfl) (by with_reducible rfl) SC.out).mono ?_; rintro e wd ⟨rfl, kd⟩; have SD := hide kd; obtain ⟨⟨_, x0, x1, x2, x3, x4, x5, y0, y1, y2, y3, y4, y5⟩, z0, z1, z2, z3, z4, z5⟩ := kd)
      | (go_at_call 7; refine (AC.out _ _ _ (by with_reducible rfl) (by with_reducible rfl) SD.out).mono ?_; rintro e we ⟨rfl, ke⟩; have SE := hide ke; obtain ⟨⟨_, x0, x1, x2, x3, x4, x5, y0, y1, y2, y3, y4, y5⟩, z0, z1, z2, z3, z4, z5⟩ := ke)
      | (go_at_call 7; refine (AD.out _ _ _ (by with_reducible rfl) (by with_reducible rfl) SE.out).mono ?_; rintro e wf ⟨rfl, kf⟩; have SF := hide kf; obtain ⟨⟨_, x0, x1, x2, x3, x4, x5, y0, y1, y2, y3, y4, y5⟩, z0, z1, z2, z3, z4, z5⟩ := kf))
    go_ret
    exact ⟨rfl, SE.out.1.1.out⟩
    | true =>
    obtain rfl : d = true := hcd rfl
    clear hcd
    go_wp2_with (first
      | (go_at_call 7; refine (AX.out _ _ _ (by with_reducible rfl) (by with_reducible rfl) SC.out).mono ?_; rintro e wd ⟨rfl, kd⟩; have SD := hide kd; obtain ⟨⟨_, x0, x1, x2, x3, x4, x5, y0, y1, y2, y3, y4, y5⟩, z0, z1, z2, z3, z4, z5⟩ := kd)
      | (go_at_call 7; refine (AC.out _ _ _ (by with_reducible rfl) (by with_reducible rfl) SD.out).mono ?_; rintro e we ⟨rfl, ke⟩; have SE := hide ke; obtain ⟨⟨_, x0, x1, x2, x3, x4, x5, y0, y1, y2, y3, y4, y5⟩, z0, z1, z2, z3, z4, z5⟩ := ke)
      | (go_at_call 7; refine (AD.out _ _ _ (by with_reducible rfl) (by with_reducible rfl) SE.out).mono ?_; rintro e wf ⟨rfl, kf⟩; have SF := hide kf; obtain ⟨⟨_, x0, x1, x2, x3, x4, x5, y0, y1, y2, y3, y4, y5⟩, z0, z1, z2, z3, z4, z5⟩ := kf))
    go_ret
    exact ⟨rfl, SF.out.1.1.out⟩
  · clear AC AD
    go_wp2_with (first
      | (go_at_call 7; refine (AX.out _ _ _ (by with_reducible rfl) (by with_reducible rfl) SC.out).mono ?_; rintro e wd ⟨rfl, kd⟩; have SD := hide kd; obtain ⟨⟨_, x0, x1, x2, x3, x4, x5, y0, y1, y2, y3, y4, y5⟩, z0, z1, z2, z3, z4, z5⟩ := kd)
      | (go_at_call 7; refine (AC.out _ _ _ (by with_reducible rfl) (by with_reducible rfl) SD.out).mono ?_; rintro e we ⟨rfl, ke⟩; have SE := hide ke; obtain ⟨⟨_, x0, x1, x2, x3, x4, x5, y0, y1, y2, y3, y4, y5⟩, z0, z1, z2, z3, z4, z5⟩ := ke)
      | (go_at_call 7; refine (AD.out _ _ _ (by with_reducible rfl) (by with_reducible rfl) SE.out).mono ?_; rintro e wf ⟨rfl, kf⟩; have SF := hide kf; obtain ⟨⟨_, x0, x1, x2, x3, x4, x5, y0, y1, y2, y3, y4, y5⟩, z0, z1, z2, z3, z4, z5⟩ := kf))
    go_ret
    exact ⟨rfl, SD.out.1.1.out⟩
  · clear AC AD
    go_wp2_with (first
      | (go_at_call 7; refine (AX.out _ _ _ (by with_reducible rfl) (by with_reducible rfl) SC.out).mono ?_; rintro e wd ⟨rfl, kd⟩; have SD := hide kd; obtain ⟨⟨_, x0, x1, x2, x3, x4, x5, y0, y1, y2, y3, y4, y5⟩, z0, z1, z2, z3, z4, z5⟩ := kd)
      | (go_at_call 7; refine (AC.out _ _ _ (by with_reducible rfl) (by with_reducible rfl) SD.out).mono ?_; rintro e we ⟨rfl, ke⟩; have SE := hide ke; obtain ⟨⟨_, x0, x1, x2, x3, x4, x5, y0, y1, y2, y3, y4, y5⟩, z0, z1, z2, z3, z4, z5⟩ := ke)
      | (go_at_call 7; refine (AD.out _ _ _ (by with_reducible rfl) (by with_reducible rfl) SE.out).mono ?_; rintro e wf ⟨rfl, kf⟩; have SF := hide kf; obtain ⟨⟨_, x0, x1, x2, x3, x4, x5, y0, y1, y2, y3, y4, y5⟩, z0, z1, z2, z3, z4, z5⟩ := kf))
    go_ret
    exact ⟨rfl, SD.out.1.1.out⟩
theorem one_any (X Y Z : IT) (w : World) : Calls Try.prog 4 #[.agg (it6 X).toArray, .agg (it6 Y).toArray, .agg (it6 Z).toArray] w fun e w' => e = .returned (.bool true) ∧ Below w.heap.size w w' := by
  refine one_way X Y Z w _ _ _ _ _ rfl rfl rfl rfl rfl ?_
  cases ha : lI X Y with
  | true =>
    refine .inl ⟨rfl, lI_asymm ha, decide_eq_false (fun e => ?_), fun hc => lI_trans ha hc⟩
    rw [e, lI_irrefl] at ha
    cases ha
  | false =>
    cases hb : lI Y X with
    | true =>
      refine .inr (.inl ⟨rfl, rfl, decide_eq_false (fun e => ?_)⟩)
      rw [e, lI_irrefl] at hb
      cases hb
    | false => exact .inr (.inr ⟨rfl, rfl, decide_eq_true (lI_total ha hb)⟩)
end Go.Proofs.Ytkcefdiiibbflaa

/-
  The walk of MatrixReckons.
-/
import Derived.Test.YthedeggggbdibaaPairB
namespace Go.Proofs.Ythedeggggbdibaa
open Go.RowKit Go.Lib

/-- What the walk of MatrixReckons keeps. -/
structure RK (W0 : World) (sb f p q p' q' : Nat) (ra ca rb cb : Int) (va vb v1 v2 vo vl : Value) (na nb nl : Nat) (Za Zb Zl : Nat → Int) (w : World) : Prop where
  sp : SP w sb f
  bp : Br w p ra ca va
  bq : Br w q rb cb vb
  cp : Bx w p' ra ca v1
  cq : Bx w q' rb cb v2
  xa : NX w f va na Za
  xb : NX w f vb nb Zb
  x1 : NX w f v1 na Za
  x2 : NX w f v2 nb Zb
  xo : NX w f vo nl Zl
  xl : NX w f vl nl Zl
  bel : Below W0.heap.size W0 w
  lf : W0.heap.size ≤ f
theorem Br.go {w w' : World} {sb f b : Nat} {r c : Int} {v : Value} (h : Br w b r c v) (hS : SP w sb f) (hg : w.grownBy w' (some f)) : Br w' b r c v := by
  refine h.grown hg (fun e => ?_)
  subst e
  unfold Br at h
  rcases hS.fl with x | ⟨_, _, x, _⟩ <;> (unfold FB at x; rw [h] at x; simp at x)
/-- A matrix that 'of' has made: its members lie in a block of their own, or there are none. -/
def GX (f : Nat) (r c : Int) (n : Nat) (Z : Nat → Int) (v : Value) (w : World) : Prop :=
  ∃ ao cap, v = .agg #[.int .i64 r, .int .i64 c, .slice ao n cap] ∧ NX w f (.slice ao n cap) n Z ∧ (n = 0 ∨ ∃ g cs, ao = some ⟨g, 0, none⟩ ∧ w.heap[g]? = some (.cells cs 3 (0, 0)))
theorem GX.stays (f : Nat) (r c : Int) (n : Nat) (Z : Nat → Int) : Stays (GX f r c n Z) r c where
  bel := fun v w w' ⟨ao, cap, e, h, hl⟩ hb => ⟨ao, cap, e, h.below hb, hl.imp id fun ⟨g, cs, e1, e2⟩ => ⟨g, cs, e1, (hb.block g (lt_of_block e2)).trans e2⟩⟩
  put := fun v w w' b r' c' u ⟨ao, cap, e, h, hl⟩ hB hg => by
    have hl2 : n = 0 ∨ ∃ g cs, ao = some ⟨g, 0, none⟩ ∧ w.heap[g]? = some (.cells cs 3 (0, 0)) ∧ g ≠ b := by
      rcases hl with h | ⟨g, cs, e1, e2⟩
      · exact .inl h
      · refine .inr ⟨g, cs, e1, e2, fun e => ?_⟩
        subst e
        unfold Bx at hB
        rw [e2] at hB
        simp at hB
    refine ⟨ao, cap, e, h.put (hl2.imp id fun ⟨g, cs, e1, _, e3⟩ => ⟨g, e1, e3⟩) hg, hl2.imp id fun ⟨g, cs, e1, e2, e3⟩ => ⟨g, cs, e1, (hg.block g (lt_of_block e2) (by simpa using e3)).trans e2⟩⟩
  shp := fun v w ⟨ao, cap, e, _⟩ => ⟨ao, n, cap, e⟩
section
variable {W0 w w' : World} {sb f p q p' q' : Nat} {ra ca rb cb : Int} {va vb v1 v2 vo vl : Value} {na nb nl : Nat} {Za Zb Zl : Nat → Int}
theorem RK.below (h : RK W0 sb f p q p' q' ra ca rb cb va vb v1 v2 vo vl na nb nl Za Zb Zl w) (hb : Below w.heap.size w w') : RK W0 sb f p q p' q' ra ca rb cb va vb v1 v2 vo vl na nb nl Za Zb Zl w' where
  sp := h.sp.below hb (Nat.le_refl _)
  bp := h.bp.below hb (Nat.le_refl _)
  bq := h.bq.below hb (Nat.le_refl _)
  cp := h.cp.below hb (Nat.le_refl _)
  cq := h.cq.below hb (Nat.le_refl _)
  xa := h.xa.below hb
  xb := h.xb.below hb
  x1 := h.x1.below hb
  x2 := h.x2.below hb
  xo := h.xo.below hb
  xl := h.xl.below hb
  bel := below_step h.bel hb
  lf := h.lf
theorem RK.alloc (h : RK W0 sb f p q p' q' ra ca rb cb va vb v1 v2 vo vl na nb nl Za Zb Zl w) (o : Obj) : RK W0 sb f p q p' q' ra ca rb cb va vb v1 v2 vo vl na nb nl Za Zb Zl (w.alloc o) := h.below (below_alloc (Below.refl _ _) o)
theorem RK.go (h : RK W0 sb f p q p' q' ra ca rb cb va vb v1 v2 vo vl na nb nl Za Zb Zl w) (hS : SP w' sb f) (hg : w.grownBy w' (some f)) : RK W0 sb f p q p' q' ra ca rb cb va vb v1 v2 vo vl na nb nl Za Zb Zl w' where
  sp := hS
  bp := h.bp.go h.sp hg
  bq := h.bq.go h.sp hg
  cp := h.cp.go h.sp hg
  cq := h.cq.go h.sp hg
  xa := h.xa.grown hg
  xb := h.xb.grown hg
  x1 := h.x1.grown hg
  x2 := h.x2.grown hg
  xo := h.xo.grown hg
  xl := h.xl.grown hg
  bel := below_gb h.bel hg h.lf h.bel.size
  lf := h.lf
end
end Go.Proofs.Ythedeggggbdibaa

/-
  A range over an iterator that makes new memory alone, to its end.
-/
import Derived.Test.YtdmlhkphdolbeaaDoorGeKit
import Derived.RangeFuncNested
import Derived.RangeFuncBound
import Derived.RangeFuncCalls
import Derived.RangeFuncLeaves
import Derived.Shelf.Abstract
import Derived.Shelf.RegionOpen
import Derived.WalkKit
import Derived.OwnWalkIn
import Derived.TacticsInMore
import Derived.LoopNIn
import Derived.LoopIn
namespace Go.Proofs.YtdmlhkphdolbeaaDoor
open Go.RowKit Go.Lib
/-- An iterator: round t hands v, of which C tells; it wants K of memory, and makes new memory alone. -/
def SeqQ (gf : Nat) (lb : Array Value) (C : Nat → Value → Prop) (S : Nat → Prop) (K : World → Prop) (w : World) : Prop :=
  ∀ (l : Nat) (J : Nat → World → Prop) (W : World), Below w.heap.size w W → l < W.heap.size → (∀ t A A', J t A → Below A.heap.size A A' → J t A') → (∀ t A, J t A → K A) →
    (∀ t v W1, J t W1 → C t v → YieldAt Fence.wide 0 Tryd.prog l #[v] W1 fun e W' => e = .returned (.bool true) ∧ J (t + 1) W') →
    J 0 W → CallsIn Fence.wide 0 Tryd.prog gf (#[.func (.yield l) #[] #[]] ++ lb) W fun e W' => (∃ v, e = .returned v) ∧ ∃ t, S t ∧ J t W'
/-- How a round is left. -/
def postQ (D : Nat) (I : Nat → World → Prop) (t : Nat) (W : World) : Exit → Act → World → Prop
  | .normal, _, W' => I (t + 1) W' ∧ W'.heap[D]? = W.heap[D]? ∧ W'.heap[D + 1]? = W.heap[D + 1]?
  | _, _, _ => False
theorem gs_putObj {W : World} {l : Nat} {o : Obj} : Gs (fun i => i = l) W (W.putObj l o) := (Gs.refl _ W).gb (grownBy_putObj' W l o) (.inl rfl)
theorem range_q {g : Operand} {ps : Array Tmp} {assign body : Code} {Q : Exit → Act → World → Prop} {a : Act} {w : World} {gf : Nat} {lb : Array Value} (hg : a.eval g = .func (.func gf) #[] lb) (eg : ∀ args w, (callFunc gf args).run Tryd.prog w = .ok (.enter gf args) w)
    {C : Nat → Value → Prop} {S : Nat → Prop} {K : World → Prop} (hseq : SeqQ gf lb C S K w) (hps : ps.size = 1)
    (I : Nat → World → Prop) (hI : ∀ t A A', I t A → Gs (fun i => i = w.heap.size ∨ i = w.heap.size + 1) A A' → I t A') (hIK : ∀ t A, I t A → K A)
    (h0 : ∀ W0, Below w.heap.size w W0 → W0.heap.size = w.heap.size + 2 → I 0 W0) (a1 : Value → Act)
    (hassign : ∀ (l : Nat) (v : Value) (W : World) (K : Act → World → Prop), K (a1 v) W → assign.wpIn (Fence.wide.inRound l) 0 Tryd.prog (Exit.then K (fun _ _ _ => False)) { tmps := (ps.zip #[v]).foldl (fun t (p, v) => t.setIfInBounds p v) a.tmps, defers := [] } W)
    (hbody : ∀ (l t : Nat) (v : Value) (W : World), w.heap.size + 2 ≤ W.heap.size → I t W → C t v → body.wpIn (Fence.wide.inRound l) 0 Tryd.prog (postQ w.heap.size I t W) (a1 v) W)
    (hdone : ∀ (D t : Nat) (W : World), D = w.heap.size → S t → I t W → W.heap[D]? = some (.deferred (some [])) → Q .normal { a with defers := { target := .collected D, args := #[] } :: a.defers } W) :
    (Code.rangeFunc g ps assign body).wpIn Fence.wide 0 Tryd.prog Q a w := by
  refine wpIn_rangeFunc fun fn hfn => ?_
  obtain ⟨D, hD⟩ : ∃ D, D = w.heap.size := ⟨_, rfl⟩
  obtain ⟨mk, hmk⟩ : ∃ mk : LoopState → Option Code → Loop, mk = fun st pe => { state := st, pending := pe, fn, tmps := a.tmps, params := ps, assign, body, defers := w.heap.size } := ⟨_, rfl⟩
  obtain ⟨W0, hW0⟩ : ∃ W0, W0 = (w.alloc (.deferred (some []))).alloc (.loop (mk .ready none)) := ⟨_, rfl⟩
  have hs0 : W0.heap.size = D + 2 := by rw [hW0, hD]; simp
  have hl0 : W0.heap[D + 1]? = some (.loop (mk .ready none)) := by
    rw [hW0, hD]; have := World.alloc_heap_new (w.alloc (.deferred (some []))) (.loop (mk .ready none)); rwa [World.size_alloc] at this
  have hd0 : W0.heap[D]? = some (.deferred (some [])) := by
    rw [hW0, hD]; exact (Below.heap_alloc _ _ _ (by simp)).trans (World.alloc_heap_new w _)
  have hb0 : Below w.heap.size w W0 := by rw [hW0]; exact ((Below.refl _ w).alloc (Nat.le_refl _) _).alloc (by simp) _
  refine ⟨D + 1, [{ target := .collected D, args := #[] }], W0, { target := .fn (.func gf) lb, args := #[.func (.yield (D + 1)) #[] #[]] }, W0, gf, #[.func (.yield (D + 1)) #[] #[]] ++ lb, W0, ?_, ?_, fun _ _ => trivial, ?_, fun h => absurd h (by decide), ?_⟩
  · have := run_enterLoop_outer (P := Tryd.prog) (w := w) fn a.tmps ps assign body
    rw [hW0, hD, hmk]
    exact this
  · simp only [resolve, hg]
    simp [go_sem]
  · simp [invoke, go_sem, eg]
  rw [← hD] at hI hbody
  have lt : ∀ {A : World} {i : Nat} {o : Obj}, A.heap[i]? = some o → i < A.heap.size := fun h => (Array.getElem?_eq_some_iff.1 h).1
  refine (hseq (D + 1) (fun t W => I t W ∧ W.heap[D + 1]? = some (.loop (mk .ready none)) ∧ W.heap[D]? = some (.deferred (some []))) W0 hb0 (by omega)
    (fun t A A' h hB => ⟨hI t A A' h.1 (Gs.of_below _ hB), (hB.block _ (lt h.2.1)).trans h.2.1, (hB.block _ (lt h.2.2)).trans h.2.2⟩)
    (fun t A h => hIK t A h.1) ?_ ⟨h0 W0 hb0 (by omega), hl0, hd0⟩).mono ?_
  · rintro t v W ⟨hi, hl, hd⟩ hc
    have hlt : D + 1 < W.heap.size := lt hl
    have hy := run_yield (P := Tryd.prog) (args := #[v]) hl (by rw [hmk]; exact hps.symm)
    rw [hmk] at hy
    refine ⟨fn, _, assign, body, hy, roundIn_of_wpIn hfn (hassign _ v W _ ⟨_, run_beginRound hl (by rw [hmk]), ?_⟩)⟩
    obtain ⟨V, hV⟩ : ∃ V, V = W.putObj (D + 1) (.loop { mk .ready none with state := .busy }) := ⟨_, rfl⟩
    rw [← hV]
    have hgV : Gs (fun i => i = D + 1) W V := by rw [hV]; exact gs_putObj
    have hlV : V.heap[D + 1]? = some (.loop { mk .ready none with state := .busy }) := by rw [hV]; exact World.putObj_heap_same hlt
    have hdV : V.heap[D]? = some (.deferred (some [])) := by rw [hV]; exact (World.putObj_heap_other (by omega)).trans hd
    have hVs := hgV.size
    refine wpIn_mono (hbody (D + 1) t v V (by omega) (hI t W V hi (hgV.mono fun i _ e => .inr e)) hc) ?_
    rintro e a3 W3 hp
    cases e with
    | normal =>
      obtain ⟨hi3, hd3, hl3⟩ := hp
      have h3 := hl3.trans hlV
      have h4 := hd3.trans hdV
      have hr := run_endRound (P := Tryd.prog) none h3
      rw [hmk] at hr ⊢
      exact ⟨_, _, hr, rfl, hI _ _ _ hi3 (gs_putObj.mono fun i _ e => .inr e), World.putObj_heap_same (lt h3), (World.putObj_heap_other (by omega)).trans h4⟩
    | ret => exact hp.elim
    | exit id => exact hp.elim
    | goto t => exact hp.elim
    | panic ch => exact hp.elim
    | outgrown => exact hp.elim
  · rintro e W2 ⟨⟨v, rfl⟩, t, hS, hi, hl, hd⟩
    have hr := run_endLoop (P := Tryd.prog) hl (by rw [hmk]; show LoopState.ready ≠ LoopState.busy; decide)
    rw [hmk] at hr
    exact ⟨none, _, hr, hdone D t _ hD hS (hI _ _ _ hi (gs_putObj.mono fun i _ e => .inr e)) ((World.putObj_heap_other (by omega)).trans hd)⟩
end Go.Proofs.YtdmlhkphdolbeaaDoor

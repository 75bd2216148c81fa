/-
  A range over an iterator that keeps blocks of its own, while the body turns whatever else.
-/
import Derived.Test.YtgigiamnhjelmaaDoorLpRead
import Derived.RangeFuncNested
import Derived.RangeFuncBound
import Derived.RangeFuncCalls
import Derived.RangeFuncLeaves
import Derived.Shelf.Abstract
import Derived.Shelf.RegionOpen
import Derived.WalkKit
import Derived.OwnWalkIn
import Derived.TacticsInMore
import Derived.LoopNIn
import Derived.LoopIn
namespace Go.Proofs.YtgigiamnhjelmaaDoor
open Go.RowKit Go.Lib
/-- Kept where the iterator turns its own blocks N and makes new ones, which may be its own then. -/
def StbN (J : Nat → (Nat → Prop) → World → Prop) : Prop := ∀ t N N' A A', J t N A → Gs N A A' → (∀ i, N' i → i < A'.heap.size ∧ (N i ∨ A.heap.size ≤ i)) → J t N' A'
/-- An iterator: round t hands vs, of which C tells; what it has of its own the body leaves as it is. -/
def SeqN (gf : Nat) (lb : Array Value) (C : Nat → Array Value → Prop) (S Sp : Nat → Prop) (w : World) : Prop :=
  ∀ (l : Nat) (J Jx : Nat → (Nat → Prop) → World → Prop) (W : World), Below w.heap.size w W → l < W.heap.size → StbN J → StbN Jx →
    (∀ t N vs W1, J t N W1 → C t vs → (∀ i, N i → i < W1.heap.size) → YieldAt Fence.wide 0 Tryd.prog l vs W1 fun e W' => Gs (fun i => ¬ N i) W1 W' ∧ ((e = .returned (.bool true) ∧ J (t + 1) N W') ∨ (e = .returned (.bool false) ∧ Jx t N W'))) →
    J 0 (fun _ => False) W → CallsIn Fence.wide 0 Tryd.prog gf (#[.func (.yield l) #[] #[]] ++ lb) W fun e W' => (∃ v, e = .returned v) ∧ ((∃ t N, S t ∧ J t N W') ∨ (∃ t N, Sp t ∧ Jx t N W'))
/-- How a round may be left. -/
def postN (D : Nat) (N : Nat → Prop) (I : Nat → (Nat → Prop) → World → Prop) (Ix : Code → Nat → (Nat → Prop) → World → Prop) (t : Nat) (W : World) : Exit → Act → World → Prop
  | .normal, _, W' => Gs (fun i => ¬ N i ∧ i ≠ D ∧ i ≠ D + 1) W W' ∧ I (t + 1) N W'
  | .ret, _, W' => Gs (fun i => ¬ N i ∧ i ≠ D ∧ i ≠ D + 1) W W' ∧ Ix .ret t N W'
  | .exit id, _, W' => Gs (fun i => ¬ N i ∧ i ≠ D ∧ i ≠ D + 1) W W' ∧ Ix (.exit id) t N W'
  | _, _, _ => False
/-- Kept, what the loop itself turns besides. -/
def StbL (D : Nat) (I : Nat → (Nat → Prop) → World → Prop) : Prop := ∀ t N N' A A', I t N A → Gs (fun i => N i ∨ i = D ∨ i = D + 1) A A' → (∀ i, N' i → i < A'.heap.size ∧ (N i ∨ A.heap.size ≤ i)) → I t N' A'
theorem gs_putObj {W : World} {l : Nat} {o : Obj} : Gs (fun i => i = l) W (W.putObj l o) := (Gs.refl _ W).gb (grownBy_putObj' W l o) (.inl rfl)
theorem range_n {g : Operand} {ps : Array Tmp} {assign body : Code} {Q : Exit → Act → World → Prop} {a : Act} {w : World} {gf : Nat} {lb : Array Value} (hg : a.eval g = .func (.func gf) #[] lb) (eg : ∀ args w, (callFunc gf args).run Tryd.prog w = .ok (.enter gf args) w)
    {C : Nat → Array Value → Prop} {S Sp : Nat → Prop} (hseq : SeqN gf lb C S Sp w) (hps : ∀ t vs, C t vs → vs.size = ps.size)
    (I : Nat → (Nat → Prop) → World → Prop) (Ix : Code → Nat → (Nat → Prop) → World → Prop) (hI : StbL w.heap.size I) (hIx : ∀ c, StbL w.heap.size (Ix c)) (h0 : I 0 (fun _ => False) w)
    (A : Nat → Array Value → Act → World → Prop) (hA : ∀ g vs a2 W W', A g vs a2 W → Gs (fun i => i < g) W W' → A g vs a2 W')
    (hassign : ∀ (l t : Nat) (vs : Array Value) (W : World) (K : Act → World → Prop), C t vs → (∀ a2 W2, Below W.heap.size W W2 → A W.heap.size vs a2 W2 → K a2 W2) → assign.wpIn (Fence.wide.inRound l) 0 Tryd.prog (Exit.then K (fun _ _ _ => False)) { tmps := (ps.zip vs).foldl (fun t (p, v) => t.setIfInBounds p v) a.tmps, defers := [] } W)
    (hbody : ∀ (l t : Nat) (N : Nat → Prop) (vs : Array Value) (V : World) (g : Nat) (a2 : Act), I t N V → C t vs → A g vs a2 V → w.heap.size + 2 ≤ g → g ≤ V.heap.size → (∀ i, N i → i < g ∧ i ≠ w.heap.size ∧ i ≠ w.heap.size + 1) → body.wpIn (Fence.wide.inRound l) 0 Tryd.prog (postN w.heap.size N I Ix t V) a2 V)
    (hdone : ∀ (D t : Nat) (N : Nat → Prop) (W : World), D = w.heap.size → S t → I t N W → W.heap[D]? = some (.deferred (some [])) → Q .normal { a with defers := { target := .collected D, args := #[] } :: a.defers } W)
    (hstop : ∀ (D : Nat) (c : Code) (t : Nat) (N : Nat → Prop) (W : World), D = w.heap.size → Sp t → Ix c t N W → W.heap[D]? = some (.deferred (some [])) → c.wpIn Fence.wide 0 Tryd.prog Q { a with defers := { target := .collected D, args := #[] } :: a.defers } W) :
    (Code.rangeFunc g ps assign body).wpIn Fence.wide 0 Tryd.prog Q a w := by
  refine wpIn_rangeFunc fun fn hfn => ?_
  obtain ⟨D, hD⟩ : ∃ D, D = w.heap.size := ⟨_, rfl⟩
  obtain ⟨mk, hmk⟩ : ∃ mk : LoopState → Option Code → Loop, mk = fun st pe => { state := st, pending := pe, fn, tmps := a.tmps, params := ps, assign, body, defers := w.heap.size } := ⟨_, rfl⟩
  obtain ⟨W0, hW0⟩ : ∃ W0, W0 = (w.alloc (.deferred (some []))).alloc (.loop (mk .ready none)) := ⟨_, rfl⟩
  have hs0 : W0.heap.size = D + 2 := by rw [hW0, hD]; simp
  have hl0 : W0.heap[D + 1]? = some (.loop (mk .ready none)) := by
    rw [hW0, hD]; have := World.alloc_heap_new (w.alloc (.deferred (some []))) (.loop (mk .ready none)); rwa [World.size_alloc] at this
  have hd0 : W0.heap[D]? = some (.deferred (some [])) := by
    rw [hW0, hD]; exact (Below.heap_alloc _ _ _ (by simp)).trans (World.alloc_heap_new w _)
  have hb0 : Below w.heap.size w W0 := by rw [hW0]; exact ((Below.refl _ w).alloc (Nat.le_refl _) _).alloc (by simp) _
  refine ⟨D + 1, [{ target := .collected D, args := #[] }], W0, { target := .fn (.func gf) lb, args := #[.func (.yield (D + 1)) #[] #[]] }, W0, gf, #[.func (.yield (D + 1)) #[] #[]] ++ lb, W0, ?_, ?_, fun _ _ => trivial, ?_, fun h => absurd h (by decide), ?_⟩
  · have := run_enterLoop_outer (P := Tryd.prog) (w := w) fn a.tmps ps assign body
    rw [hW0, hD, hmk]
    exact this
  · simp only [resolve, hg]
    simp [go_sem]
  · simp [invoke, go_sem, eg]
  rw [← hD] at hI hIx hbody
  have lt : ∀ {A : World} {i : Nat} {o : Obj}, A.heap[i]? = some o → i < A.heap.size := fun h => (Array.getElem?_eq_some_iff.1 h).1
  have own : ∀ {N N' : Nat → Prop} {A A' : World}, ¬ N D ∧ ¬ N (D + 1) → D + 1 < A.heap.size → (∀ i, N' i → i < A'.heap.size ∧ (N i ∨ A.heap.size ≤ i)) → ¬ N' D ∧ ¬ N' (D + 1) := fun h hs hN =>
    ⟨fun e => by rcases (hN _ e).2 with h1 | h1; exact h.1 h1; omega, fun e => by rcases (hN _ e).2 with h1 | h1; exact h.2 h1; omega⟩
  refine (hseq (D + 1) (fun t N W => (¬ N D ∧ ¬ N (D + 1)) ∧ I t N W ∧ W.heap[D + 1]? = some (.loop (mk .ready none)) ∧ W.heap[D]? = some (.deferred (some [])))
    (fun t N W => (¬ N D ∧ ¬ N (D + 1)) ∧ ∃ c, Ix c t N W ∧ W.heap[D + 1]? = some (.loop (mk .done (some c))) ∧ W.heap[D]? = some (.deferred (some []))) W0 hb0 (by omega)
    (fun t N N' A A' ⟨hn, h1, h2, h3⟩ hG hN => ⟨own hn (lt h2) hN, hI t N N' A A' h1 (hG.mono fun i _ e => .inl e) hN, (hG.block _ (lt h2) hn.2).trans h2, (hG.block _ (lt h3) hn.1).trans h3⟩)
    (fun t N N' A A' ⟨hn, c, h1, h2, h3⟩ hG hN => ⟨own hn (lt h2) hN, c, hIx c t N N' A A' h1 (hG.mono fun i _ e => .inl e) hN, (hG.block _ (lt h2) hn.2).trans h2, (hG.block _ (lt h3) hn.1).trans h3⟩) ?_
    ⟨⟨fun e => e, fun e => e⟩, hI 0 _ _ w W0 h0 (Gs.of_below _ hb0) (fun i e => e.elim), hl0, hd0⟩).mono ?_
  · rintro t N vs W ⟨hn, hi, hl, hd⟩ hc hNs
    have hlt : D + 1 < W.heap.size := lt hl
    have hy := run_yield (P := Tryd.prog) (args := vs) hl (by rw [hmk]; exact hps t vs hc)
    rw [hmk] at hy
    refine ⟨fn, _, assign, body, hy, roundIn_of_wpIn hfn (hassign _ t vs W _ hc fun a2 W2 hB2 hA2 => ?_)⟩
    have hl2 : W2.heap[D + 1]? = some (.loop (mk .ready none)) := (hB2.block _ hlt).trans hl
    have hd2 : W2.heap[D]? = some (.deferred (some [])) := (hB2.block _ (lt hd)).trans hd
    refine ⟨_, run_beginRound hl2 (by rw [hmk]), ?_⟩
    obtain ⟨V, hV⟩ : ∃ V, V = W2.putObj (D + 1) (.loop { mk .ready none with state := .busy }) := ⟨_, rfl⟩
    rw [← hV]
    have hgV : Gs (fun i => i = D + 1) W2 V := by rw [hV]; exact gs_putObj
    have hlV : V.heap[D + 1]? = some (.loop { mk .ready none with state := .busy }) := by rw [hV]; exact World.putObj_heap_same (lt hl2)
    have hdV : V.heap[D]? = some (.deferred (some [])) := by rw [hV]; exact (World.putObj_heap_other (by omega)).trans hd2
    have hB2s := hB2.size
    have hgVs := hgV.size
    have hGW : Gs (fun i => i = D + 1) W V := (Gs.of_below _ hB2).trans hgV
    have hiV : I t N V := hI t N N W V hi (hGW.mono fun i _ e => .inr (.inr e)) (fun i e => ⟨by have := hNs i e; omega, .inl e⟩)
    have hAV : A W.heap.size vs a2 V := hA _ _ _ _ _ hA2 (hgV.mono fun i _ e => by omega)
    refine wpIn_mono (hbody (D + 1) t N vs V W.heap.size a2 hiV hc hAV (by omega) (by omega) (fun i e => ⟨hNs i e, fun h => hn.1 (h ▸ e), fun h => hn.2 (h ▸ e)⟩)) ?_
    have key : ∀ (jump : Option Code) (W3 : World), Gs (fun i => ¬ N i ∧ i ≠ D ∧ i ≠ D + 1) V W3 →
        ∃ W4, (Instr.endRound (D + 1) jump).run Tryd.prog W3 = .ok (.bool jump.isNone) W4 ∧ W4.heap[D + 1]? = some (.loop (mk (if jump.isNone then .ready else .done) jump)) ∧ W4.heap[D]? = some (.deferred (some [])) ∧ Gs (fun i => i = D + 1) W3 W4 ∧ Gs (fun i => ¬ N i) W W4 := fun jump W3 hG => by
      have h3 := (hG.block (D + 1) (lt hlV) (fun e => e.2.2 rfl)).trans hlV
      have h4 := (hG.block D (lt hdV) (fun e => e.2.1 rfl)).trans hdV
      have hr := run_endRound (P := Tryd.prog) jump h3
      rw [hmk] at hr ⊢
      refine ⟨_, hr, World.putObj_heap_same (lt h3), (World.putObj_heap_other (by omega)).trans h4, gs_putObj, ?_⟩
      have e1 : ∀ i, i = D + 1 → ¬ N i := fun i e h => hn.2 (e ▸ h)
      exact ((hGW.mono fun i _ e => e1 i e).trans (hG.mono fun i _ e => e.1)).trans (gs_putObj.mono fun i _ e => e1 i e)
    have nn : ∀ {W3 W4 : World}, Gs (fun i => i = D + 1) W3 W4 → Gs (fun i => ¬ N i ∧ i ≠ D ∧ i ≠ D + 1) V W3 → ∀ i, N i → i < W4.heap.size ∧ (N i ∨ W3.heap.size ≤ i) := fun h3 hG i e => ⟨by have := hNs i e; have := hG.size; have := h3.size; omega, .inl e⟩
    rintro e a3 W3 hp
    cases e with
    | normal =>
      obtain ⟨hk, hi3⟩ := hp
      obtain ⟨W4, hr, h1, h2, h3, h4⟩ := key none W3 hk
      exact ⟨_, _, hr, h4, .inl ⟨rfl, hn, hI _ _ _ _ _ hi3 (h3.mono fun i _ e => .inr (.inr e)) (nn h3 hk), h1, h2⟩⟩
    | ret =>
      obtain ⟨hk, hi3⟩ := hp
      obtain ⟨W4, hr, h1, h2, h3, h4⟩ := key (some .ret) W3 hk
      exact ⟨_, _, hr, h4, .inr ⟨rfl, hn, .ret, hIx _ _ _ _ _ _ hi3 (h3.mono fun i _ e => .inr (.inr e)) (nn h3 hk), h1, h2⟩⟩
    | exit id =>
      obtain ⟨hk, hi3⟩ := hp
      obtain ⟨W4, hr, h1, h2, h3, h4⟩ := key (some (.exit id)) W3 hk
      exact ⟨_, _, hr, h4, .inr ⟨rfl, hn, .exit id, hIx _ _ _ _ _ _ hi3 (h3.mono fun i _ e => .inr (.inr e)) (nn h3 hk), h1, h2⟩⟩
    | goto t => exact hp.elim
    | panic ch => exact hp.elim
    | outgrown => exact hp.elim
  · have tail : ∀ {W2 : World} (st : LoopState) (pe : Option Code), st ≠ .busy → W2.heap[D + 1]? = some (.loop (mk st pe)) → W2.heap[D]? = some (.deferred (some [])) → ∃ W4, (Instr.endLoop (D + 1)).run Tryd.prog W2 = .ok pe W4 ∧ Gs (fun i => i = D + 1) W2 W4 ∧ W4.heap[D]? = some (.deferred (some [])) := fun st pe hst h1 h2 => by
      have hr := run_endLoop (P := Tryd.prog) h1 (by rw [hmk]; exact hst)
      rw [hmk] at hr
      exact ⟨_, hr, gs_putObj, (World.putObj_heap_other (by omega)).trans h2⟩
    rintro e W2 ⟨⟨v, rfl⟩, (⟨t, N, hS, hn, hi, hl, hd⟩ | ⟨t, N, hSp, hn, c, hi, hl, hd⟩)⟩
    · obtain ⟨W4, hr, hG, hd4⟩ := tail .ready none (by decide) hl hd
      exact ⟨none, W4, hr, hdone D t (fun _ => False) W4 hD hS (hI _ _ _ _ _ hi (hG.mono fun i _ e => .inr (.inr e)) (fun i e => e.elim)) hd4⟩
    · obtain ⟨W4, hr, hG, hd4⟩ := tail .done (some c) (by decide) hl hd
      exact ⟨some c, W4, hr, hstop D c t (fun _ => False) W4 hD hSp (hIx c _ _ _ _ _ hi (hG.mono fun i _ e => .inr (.inr e)) (fun i e => e.elim)) hd4⟩
end Go.Proofs.YtgigiamnhjelmaaDoor

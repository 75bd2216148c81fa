/-
  Lookup: slices.Backward: a range over an iterator of two values.
-/
import Derived.Test.YtkcefdiiibbflaaLuHas
import Derived.Test.YtkcefdiiibbflaaLuDel
import Derived.RangeFuncNested
import Derived.RangeFuncBound
import Derived.RangeFuncCalls
import Derived.RangeFuncLeaves
import Derived.Shelf.Abstract
import Derived.Shelf.RegionOpen
import Derived.WalkKit
import Derived.OwnWalkIn
import Derived.TacticsInMore
import Derived.LoopNIn
import Derived.LoopIn
namespace Go.Proofs.Ytkcefdiiibbflaa
open Go.RowKit Go.Lib Go.Shelf
attribute [local go_sem] Oper.semAt_some
/-- An iterator: round t hands v, of which C tells; it wants K of memory, and makes new memory alone. -/
def SeqP2 (gf : Nat) (lb : Array Value) (C : Nat → Array Value → Prop) (S : Nat → Prop) (K : World → Prop) (w : World) : Prop :=
  ∀ (l : Nat) (J : Nat → World → Prop) (W : World), Below w.heap.size w W → l < W.heap.size → (∀ t A A', J t A → Below A.heap.size A A' → J t A') → (∀ t A, J t A → K A) →
    (∀ t v W1, J t W1 → C t v → YieldAt Fence.wide 0 Try.prog l v W1 fun e W' => e = .returned (.bool true) ∧ J (t + 1) W') →
    J 0 W → CallsIn Fence.wide 0 Try.prog gf (#[.func (.yield l) #[] #[]] ++ lb) W fun e W' => (∃ v, e = .returned v) ∧ ∃ t, S t ∧ J t W'
/-- How a round is left. -/
def postP2 (D : Nat) (I : Nat → World → Prop) (t : Nat) (W : World) : Exit → Act → World → Prop
  | .normal, _, W' => I (t + 1) W' ∧ W'.heap[D]? = W.heap[D]? ∧ W'.heap[D + 1]? = W.heap[D + 1]?
  | _, _, _ => False
theorem gs_putObj {W : World} {l : Nat} {o : Obj} : Gs (fun i => i = l) W (W.putObj l o) := (Gs.refl _ W).gb (grownBy_putObj' W l o) (.inl rfl)
theorem range_p2 {g : Operand} {ps : Array Tmp} {assign body : Code} {Q : Exit → Act → World → Prop} {a : Act} {w : World} {gf : Nat} {lb : Array Value} (hg : a.eval g = .func (.func gf) #[] lb) (eg : ∀ args w, (callFunc gf args).run Try.prog w = .ok (.enter gf args) w)
    {C : Nat → Array Value → Prop} {S : Nat → Prop} {K : World → Prop} (hseq : SeqP2 gf lb C S K w) (hps : ps.size = 2) (hC : ∀ t v, C t v → v.size = 2)
    (I : Nat → World → Prop) (hI : ∀ t A A', I t A → Gs (fun i => i = w.heap.size ∨ i = w.heap.size + 1) A A' → I t A') (hIK : ∀ t A, I t A → K A)
    (h0 : ∀ W0, Below w.heap.size w W0 → W0.heap.size = w.heap.size + 2 → I 0 W0) (a1 : Array Value → World → Act) (u1 : Array Value → World → World) (hu : ∀ v W, Below W.heap.size W (u1 v W))
    (hassign : ∀ (l t : Nat) (v : Array Value) (W : World) (K : Act → World → Prop), C t v → K (a1 v W) (u1 v W) → assign.wpIn (Fence.wide.inRound l) 0 Try.prog (Exit.then K (fun _ _ _ => False)) { tmps := (ps.zip v).foldl (fun t (p, v) => t.setIfInBounds p v) a.tmps, defers := [] } W)
    (hbody : ∀ (l t : Nat) (v : Array Value) (W V : World), w.heap.size + 2 ≤ W.heap.size → I t V → C t v → Gs (fun i => i = w.heap.size + 1) (u1 v W) V → body.wpIn (Fence.wide.inRound l) 0 Try.prog (postP2 w.heap.size I t V) (a1 v W) V)
    (hdone : ∀ (D t : Nat) (W : World), D = w.heap.size → S t → I t W → W.heap[D]? = some (.deferred (some [])) → Q .normal { a with defers := { target := .collected D, args := #[] } :: a.defers } W) :
    (Code.rangeFunc g ps assign body).wpIn Fence.wide 0 Try.prog Q a w := by
  refine wpIn_rangeFunc fun fn hfn => ?_
  obtain ⟨D, hD⟩ : ∃ D, D = w.heap.size := ⟨_, rfl⟩
  obtain ⟨mk, hmk⟩ : ∃ mk : LoopState → Option Code → Loop, mk = fun st pe => { state := st, pending := pe, fn, tmps := a.tmps, params := ps, assign, body, defers := w.heap.size } := ⟨_, rfl⟩
  obtain ⟨W0, hW0⟩ : ∃ W0, W0 = (w.alloc (.deferred (some []))).alloc (.loop (mk .ready none)) := ⟨_, rfl⟩
  have hs0 : W0.heap.size = D + 2 := by rw [hW0, hD]; simp
  have hl0 : W0.heap[D + 1]? = some (.loop (mk .ready none)) := by
    rw [hW0, hD]; have := World.alloc_heap_new (w.alloc (.deferred (some []))) (.loop (mk .ready none)); rwa [World.size_alloc] at this
  have hd0 : W0.heap[D]? = some (.deferred (some [])) := by
    rw [hW0, hD]; exact (Below.heap_alloc _ _ _ (by simp)).trans (World.alloc_heap_new w _)
  have hb0 : Below w.heap.size w W0 := by rw [hW0]; exact ((Below.refl _ w).alloc (Nat.le_refl _) _).alloc (by simp) _
  refine ⟨D + 1, [{ target := .collected D, args := #[] }], W0, { target := .fn (.func gf) lb, args := #[.func (.yield (D + 1)) #[] #[]] }, W0, gf, #[.func (.yield (D + 1)) #[] #[]] ++ lb, W0, ?_, ?_, fun _ _ => trivial, ?_, fun h => absurd h (by decide), ?_⟩
  · have := run_enterLoop_outer (P := Try.prog) (w := w) fn a.tmps ps assign body
    rw [hW0, hD, hmk]
    exact this
  · simp only [resolve, hg]
    simp [go_sem]
  · simp [invoke, go_sem, eg]
  rw [← hD] at hI hbody
  have lt : ∀ {A : World} {i : Nat} {o : Obj}, A.heap[i]? = some o → i < A.heap.size := fun h => (Array.getElem?_eq_some_iff.1 h).1
  refine (hseq (D + 1) (fun t W => I t W ∧ W.heap[D + 1]? = some (.loop (mk .ready none)) ∧ W.heap[D]? = some (.deferred (some []))) W0 hb0 (by omega)
    (fun t A A' h hB => ⟨hI t A A' h.1 (Gs.of_below _ hB), (hB.block _ (lt h.2.1)).trans h.2.1, (hB.block _ (lt h.2.2)).trans h.2.2⟩)
    (fun t A h => hIK t A h.1) ?_ ⟨h0 W0 hb0 (by omega), hl0, hd0⟩).mono ?_
  · rintro t v W ⟨hi, hl, hd⟩ hc
    have hlt : D + 1 < W.heap.size := lt hl
    have hy := run_yield (P := Try.prog) (args := v) hl (by rw [hmk]; exact (hC t v hc).trans hps.symm)
    rw [hmk] at hy
    have hbu := hu v W
    have hus := hbu.size
    have hl2 := (hbu.block _ hlt).trans hl
    have hd2 := (hbu.block _ (lt hd)).trans hd
    refine ⟨fn, _, assign, body, hy, roundIn_of_wpIn hfn (hassign _ t v W _ hc ⟨_, run_beginRound hl2 (by rw [hmk]), ?_⟩)⟩
    obtain ⟨V, hV⟩ : ∃ V, V = (u1 v W).putObj (D + 1) (.loop { mk .ready none with state := .busy }) := ⟨_, rfl⟩
    rw [← hV]
    have hgV : Gs (fun i => i = D + 1) (u1 v W) V := by rw [hV]; exact gs_putObj
    have hlV : V.heap[D + 1]? = some (.loop { mk .ready none with state := .busy }) := by rw [hV]; exact World.putObj_heap_same (lt hl2)
    have hdV : V.heap[D]? = some (.deferred (some [])) := by rw [hV]; exact (World.putObj_heap_other (by omega)).trans hd2
    have hVs := hgV.size
    refine wpIn_mono (hbody (D + 1) t v W V (by omega) (hI t W V hi ((Gs.of_below _ hbu).trans (hgV.mono fun i _ e => .inr e))) hc hgV) ?_
    rintro e a3 W3 hp
    cases e with
    | normal =>
      obtain ⟨hi3, hd3, hl3⟩ := hp
      have h3 := hl3.trans hlV
      have h4 := hd3.trans hdV
      have hr := run_endRound (P := Try.prog) none h3
      rw [hmk] at hr ⊢
      exact ⟨_, _, hr, rfl, hI _ _ _ hi3 (gs_putObj.mono fun i _ e => .inr e), World.putObj_heap_same (lt h3), (World.putObj_heap_other (by omega)).trans h4⟩
    | ret => exact hp.elim
    | exit id => exact hp.elim
    | goto t => exact hp.elim
    | panic ch => exact hp.elim
    | outgrown => exact hp.elim
  · rintro e W2 ⟨⟨v, rfl⟩, t, hS, hi, hl, hd⟩
    have hr := run_endLoop (P := Try.prog) hl (by rw [hmk]; show LoopState.ready ≠ LoopState.busy; decide)
    rw [hmk] at hr
    exact ⟨none, _, hr, hdone D t _ hD hS (hI _ _ _ hi (gs_putObj.mono fun i _ e => .inr e)) ((World.putObj_heap_other (by omega)).trans hd)⟩

section
variable {w : World} {M : List IT}
theorem backf_any (a : Option Addr) (n c : Nat) : Calls Try.prog 40 #[.slice a n c] w fun e w' => e = .returned (.func (.func 54) #[] #[.pointer (some ⟨w.heap.size, 0, none⟩)]) ∧ w' = w.alloc (.cells #[.slice a n c] 46) := by
  have hmf : ∀ (fn : Fn) (first cap : Array Value) (w : World), (Instr.makeFunc fn first cap).run Try.prog w = .ok (.func fn first cap) w := fun _ _ _ _ => rfl
  go_enter Try.func40, Try.ntmps40
  go_wp2
  go_ret
  exact ⟨rfl, rfl⟩
set_option maxRecDepth 100000 in
set_option maxHeartbeats 1600000 in
theorem back_seq {bx g o N c : Nat} (hk : M.length ≤ 1099511627776) :
    SeqP2 54 #[.pointer (some ⟨bx, 0, none⟩)] (fun t v => ∃ i x, M[i]? = some x ∧ t + i + 1 = M.length ∧ v = #[.int .i64 (i : Int), .agg (it6 x).toArray]) (fun t => t = M.length)
      (fun W => W.heap[bx]? = some (.cells #[.slice (some ⟨g, o, none⟩) M.length c] 46 (0, 0)) ∧ SG W g o N M) w := fun l J W hB hl hJ hK hY h0 => by
  obtain ⟨n, hn⟩ : ∃ n, n = M.length := ⟨_, rfl⟩
  have HN := hide hn
  rw [← hn] at hk hY ⊢
  have hK' : ∀ t A, J t A → A.heap[bx]? = some (.cells #[.slice (some ⟨g, o, none⟩) n c] 46 (0, 0)) ∧ SG A g o N M := fun t A h => by rw [hn]; exact hK t A h
  have k1 := (hK' 0 W h0).1
  have y1 : W.cell? ⟨bx, 0, none⟩ = some (.slice (some ⟨g, o, none⟩) n c) := by simp [World.cell?, k1]
  have HK := hide hK'
  have HY := hide hY
  have H0 := hide h0
  clear hB hJ hK hY h0 k1 hK' hn
  refine callsIn_of_wp Try.func54 rfl trivial ?_ rfl
  simp only [Try.ntmps54, List.size_toArray, List.length_cons, List.length_nil, Nat.reduceAdd, Nat.reduceSub, Array.replicate_succ, Array.replicate_zero, List.push_toArray, List.append_toArray, List.nil_append, List.cons_append]
  gi_wp2
  gi_loopw [3] (fun a wr => ∃ (r : Nat), r ≤ n ∧ a = .int .i64 ((r : Int) - 1) ∧ J (n - r) wr) (fun a _ => (RowKit.intOf a + 1).toNat)
  case atStart => exact ⟨n, Nat.le_refl _, rfl, by rw [Nat.sub_self]; exact H0.out⟩
  case round =>
    obtain ⟨r, hr, rfl, hj⟩ := hrel
    cases r with
    | zero =>
      have HE := hide hj
      clear hj
      gi_wp2
      go_end0
      exact ⟨⟨_, rfl⟩, n, rfl, HE.out⟩
    | succ i =>
      have e1 : (((i + 1 : Nat) : Int) - 1) = (i : Int) := by omega
      rw [e1]
      have b0 : (0 : Int) ≤ (i : Int) := by omega
      have b1 : (i : Int) < (n : Int) := by omega
      obtain ⟨x, hx⟩ : ∃ x, M[i]? = some x := ⟨_, List.getElem?_eq_getElem (by have := HN.out; omega)⟩
      obtain ⟨k2, k3⟩ := HK.out _ wr hj
      have z0 : wr.cell? ⟨bx, 0, none⟩ = some (.slice (some ⟨g, o, none⟩) n c) := by simp [World.cell?, k2]
      have hc : ∀ (t : Nat) (v : Value), (it6 x)[t]? = some v → wr.cell? ⟨g, o + i * 6 + t, none⟩ = some v := fun t v hv => k3.at hx t v hv
      have u0 := hc 0 _ rfl
      have u1 := hc 1 _ rfl
      have u2 := hc 2 _ rfl
      have u3 := hc 3 _ rfl
      have u4 := hc 4 _ rfl
      have u5 := hc 5 _ rfl
      simp only [Nat.add_zero] at u0
      obtain ⟨fn, tmps, assign, body, hy, hRd⟩ := HY.out (n - (i + 1)) #[.int .i64 (i : Int), .agg (it6 x).toArray] wr hj ⟨i, x, hx, by omega, rfl⟩
      simp only [it6] at hy hRd
      clear hj k2 k3 hc hx e1
      gi_wp2
      refine ⟨rfl, hRd.mono ?_⟩
      rintro e W9 ⟨rfl, hJ9⟩
      have HJ9 := hide hJ9
      clear hJ9 hRd hy
      gi_wp2
      exact ⟨⟨i, by omega, by go_num, by rw [show n - i = n - (i + 1) + 1 by omega]; exact HJ9.out⟩, by simp [RowKit.intOf]⟩
end
end Go.Proofs.Ytkcefdiiibbflaa

/-
  'a := f(..)' where a is a struct of three parts and what f is handed is made by a chain of steps: the new struct may be made at any time beside the chain; then it is filled.
-/
import Derived.Test.YthedeggggbdibaaPairB
import Derived.Laws.AppendOwnNone
namespace Go.Proofs.Ythedeggggbdibaa
open Go.RowKit Go.Lib

/-- A frame that is another one but for these slots. -/
structure Off (A a : Act) (D : List Nat) : Prop where
  size : a.tmps.size = A.tmps.size
  defers : a.defers = A.defers
  off : ∀ t : Nat, t ∉ D → a.tmps[t]? = A.tmps[t]?
section
variable {A a : Act} {D : List Nat}
theorem Off.refl (A : Act) (D : List Nat) : Off A A D := ⟨rfl, rfl, fun _ _ => rfl⟩
theorem Off.put (h : Off A a D) {d : Nat} (hd : d ∈ D) (v : Value) : Off A (a.put (some d) v) D :=
  ⟨by simp [Act.put, h.size], h.defers, fun t ht => by
    have : d ≠ t := fun e => ht (e ▸ hd)
    simp only [Act.put, Array.getElem?_setIfInBounds, if_neg this]
    exact h.off t ht⟩
theorem put_same {d : Nat} (hd : d < a.tmps.size) (v : Value) : (a.put (some d) v).eval (.tmp d) = v := by simp [Act.put, Act.eval, hd]
theorem put_ne {d t : Nat} (h : d ≠ t) (v : Value) : (a.put (some d) v).eval (.tmp t) = a.eval (.tmp t) := by simp [Act.put, Act.eval, h]
theorem Off.eval (h : Off A a D) {t : Nat} (ht : t ∉ D) : a.eval (.tmp t) = A.eval (.tmp t) := by simp [Act.eval, h.off t ht]
theorem fold_get (a : Act) : ∀ (D : List Nat) (T : Array Value), T.size = a.tmps.size → (D.foldl (fun T d => T.setIfInBounds d (a.eval (.tmp d))) T).size = T.size ∧ ∀ t, (D.foldl (fun T d => T.setIfInBounds d (a.eval (.tmp d))) T)[t]? = if t ∈ D then a.tmps[t]? else T[t]?
  | [], T, _ => ⟨rfl, fun t => by simp⟩
  | d :: D, T, hT => by
    obtain ⟨h1, h2⟩ := fold_get a D (T.setIfInBounds d (a.eval (.tmp d))) (by simp [hT])
    refine ⟨by rw [List.foldl_cons, h1]; simp, fun t => ?_⟩
    rw [List.foldl_cons, h2]
    by_cases e : t ∈ D
    · rw [if_pos e, if_pos (List.mem_cons_of_mem _ e)]
    · rw [if_neg e, Array.getElem?_setIfInBounds]
      by_cases e2 : d = t
      · subst e2
        rw [if_pos rfl, if_pos List.mem_cons_self]
        by_cases hl : d < T.size
        · rw [if_pos hl]
          have : d < a.tmps.size := by omega
          simp [Act.eval, this]
        · rw [if_neg hl, Array.getElem?_eq_none (by omega)]
      · rw [if_neg e2, if_neg (by simp only [List.mem_cons, not_or]; exact ⟨fun h => e2 h.symm, e⟩)]
theorem Off.eq (h : Off A a D) : a = ⟨D.foldl (fun T d => T.setIfInBounds d (a.eval (.tmp d))) A.tmps, A.defers⟩ := by
  obtain ⟨h1, h2⟩ := fold_get a D A.tmps h.size.symm
  obtain ⟨T, df⟩ := a
  have hd : df = A.defers := h.defers
  subst hd
  congr 1
  apply Array.ext_getElem?
  intro t
  rw [h2]
  by_cases e : t ∈ D
  · rw [if_pos e]
  · rw [if_neg e]; exact h.off t e
end

theorem step_build0 {ops : Array Oper} {o : Oper} {a : Act} {w : World} {K : Act → World → Prop} {Q : Exit → Act → World → Prop} {E : Prop} (hgd : o.guard = none) (ho : o.op = .buildSlice 22 0 #[])
    (h : K (a.put o.dst (.slice (some ⟨w.heap.size, 0, none⟩) 0 0)) (w.alloc (.cells #[] 3))) :
    if Region.wanted o (yielded ops a.tmps) = true then Oper.wp Try.prog o a w K Q else E := by
  have hw : Region.wanted o (yielded ops a.tmps) = true := by simp [Region.wanted, hgd]
  rw [if_pos hw]
  unfold Oper.wp execOp
  simp only [ho]
  go_simp
  exact h

/-- What is kept beside the chain: a struct that waits. -/
structure Cb (W : World) (dX : Nat) (x : Bool) (a : Act) (w : World) : Prop where
  bel : Below W.heap.size W w
  bx : x = true → ∃ b, a.eval (.tmp dX) = .pointer (some ⟨b, 0, none⟩) ∧ W.heap.size ≤ b ∧ Bx w b 0 0 (.slice none 0 0)

structure ChainOps (ops : Array Oper) (lst : Nat → Bool → Array Bool) (lP : Array Bool) (k : Nat) (iC : Nat → Nat) (iX iP dX dR : Nat) : Prop where
  oX : ∃ o, ops[iX]? = some o ∧ o.guard = none ∧ o.dst = some dX ∧ o.op = .alloc 24
  oP : ∃ o, ops[iP]? = some o ∧ o.guard = none ∧ o.dst = none ∧ o.op = .store 24 (.tmp dX) (.tmp dR)
  r0 : ∀ c x, c < k → Region.ready .any ops (lst c x) = iC c :: (if x then [] else [iX])
  r1 : Region.ready .any ops (lst k false) = [iX]
  rP : Region.ready .any ops (lst k true) = [iP]
  rE : Region.ready .any ops lP = []
  sC : ∀ c x, c < k → (lst c x).setIfInBounds (iC c) true = lst (c + 1) x
  sX : ∀ c, c ≤ k → (lst c false).setIfInBounds iX true = lst c true
  sP : (lst k true).setIfInBounds iP true = lP

theorem chain_any {ops : Array Oper} {lst : Nat → Bool → Array Bool} {lP : Array Bool} {k : Nat} {iC : Nat → Nat} {iX iP dX dR n : Nat} {W : World} {S : World → Prop} {Q : Exit → Act → World → Prop} {I : Nat → Act → World → Prop} {r0 c0 : Int}
    (H : ChainOps ops lst lP k iC iX iP dX dR) (hS : ∀ w', Below W.heap.size W w' → S w') (hdX : dX < n) (hsz : ∀ c a w, I c a w → a.tmps.size = n)
    (hI : ∀ c a w w' v, I c a w → Below w.heap.size w w' → I c (a.put (some dX) v) w')
    (step : ∀ c a w, c < k → I c a w → Below W.heap.size W w → ∃ o d, ops[iC c]? = some o ∧ d ≠ dX ∧ ∀ K' : Act → World → Prop, (∀ v w', I (c + 1) (a.put (some d) v) w' → Below W.heap.size W w' → (∀ b r c u, Bx w b r c u → Bx w' b r c u) → K' (a.put (some d) v) w') →
      if Region.wanted o (yielded ops a.tmps) = true then Oper.wp Try.prog o a w K' Q else K' (a.put o.dst undef) w)
    (hR : ∀ a w, I k a w → ∃ ao m cap, a.eval (.tmp dR) = .agg #[.int .i64 r0, .int .i64 c0, .slice ao m cap])
    (hend : ∀ a w w' b ao m cap, I k a w → a.eval (.tmp dX) = .pointer (some ⟨b, 0, none⟩) → a.eval (.tmp dR) = .agg #[.int .i64 r0, .int .i64 c0, .slice ao m cap] → Bx w b 0 0 (.slice none 0 0) → Bx w' b r0 c0 (.slice ao m cap) → w.grownBy w' (some b) → W.heap.size ≤ b → Below W.heap.size W w' → Q .normal a w') :
    ∀ (f c : Nat) (x : Bool) (a : Act) (w : World), c ≤ k → f = (k - c) + (if x then 0 else 1) + 1 → I c a w → Cb W dX x a w → wpAnyH Try.prog .any ops Q S f (lst c x) a w := by
  intro f
  induction f with
  | zero => intro c x a w _ hf; omega
  | succ f ih =>
    intro c x a w hc hf hi hb
    have stepX : x = false → wpOp Try.prog ops Q iX (fun a' w' => S w' ∧ wpAnyH Try.prog .any ops Q S f ((lst c x).setIfInBounds iX true) a' w') a w := by
      rintro rfl
      obtain ⟨o, p1, p2, p3, p4⟩ := H.oX
      refine wpOp_step p1 (fun K' hK => ?_)
      refine step_alloc24 p2 p4 ?_
      intro w1 hX1 hb1
      rw [p3]
      have b1 := below_step hb.bel hb1
      refine hK _ _ ⟨hS _ b1, ?_⟩
      rw [H.sX c hc]
      refine ih c true _ _ hc (by simp at hf ⊢; omega) (hI _ _ _ _ _ hi hb1) ⟨b1, fun _ => ⟨_, put_same (by rw [hsz _ _ _ hi]; exact hdX) _, hb.bel.size, hX1⟩⟩
    by_cases hk : c < k
    · refine wpAnyH_all (H.r0 c x hk) (by simp) ?_
      intro i hi'
      rcases List.mem_cons.1 hi' with rfl | hi'
      · obtain ⟨o, d, p1, p2, p3⟩ := step c a w hk hi hb.bel
        refine wpOp_step p1 (fun K' hK => ?_)
        refine p3 K' (fun v w' h1 h2 h3 => ?_)
        refine hK _ _ ⟨hS _ h2, ?_⟩
        rw [H.sC c x hk]
        refine ih (c + 1) x _ _ (by omega) (by omega) h1 ⟨h2, fun hx => ?_⟩
        obtain ⟨b, e1, e2, e3⟩ := hb.bx hx
        exact ⟨b, by rw [put_ne p2]; exact e1, e2, h3 _ _ _ _ e3⟩
      · cases x with
        | true => simp at hi'
        | false => obtain rfl : i = iX := by simpa using hi'
                   exact stepX rfl
    · obtain rfl : c = k := by omega
      cases x with
      | false =>
        refine wpAnyH_all H.r1 (by simp) ?_
        intro i hi'
        obtain rfl : i = iX := by simpa using hi'
        exact stepX rfl
      | true =>
        refine wpAnyH_all H.rP (by simp) ?_
        intro i hi'
        obtain rfl : i = iP := by simpa using hi'
        obtain ⟨o, p1, p2, p3, p4⟩ := H.oP
        obtain ⟨b, e1, e2, e3⟩ := hb.bx rfl
        obtain ⟨ao, m, cap, e4⟩ := hR a w hi
        refine wpOp_step p1 (fun K' hK => ?_)
        refine step_store24 p2 p3 p4 e1 e4 e3 ?_
        intro w1 hX1 g1
        have b1 : Below W.heap.size W w1 := below_gb hb.bel g1 e2 hb.bel.size
        refine hK _ _ ⟨hS _ b1, ?_⟩
        rw [H.sP]
        exact wpAnyH_done H.rE (hend a w w1 b ao m cap hi e1 e4 e3 hX1 g1 e2 b1) _

/-! ### A list of any numbers in a block of one's own -/
structure IZ (B : Nat) (v : Value) (n : Nat) (Z : Nat → Int) (w : World) : Prop where
  own : w.ownsRow B 3 1 v n (zcells n Z)
section
variable {B f n : Nat} {v : Value} {Z : Nat → Int} {w w' : World}
theorem IZ.empty (hB : B ≤ w.heap.size) (Z : Nat → Int) : IZ B (.slice (some ⟨w.heap.size, 0, none⟩) 0 0) 0 Z (w.alloc (.cells #[] 3)) :=
  ⟨rfl, .inr ⟨w.heap.size, 0, #[], rfl, hB, heap_alloc_new w _, Nat.le_refl _, Nat.zero_le _, rfl, rfl⟩⟩
theorem IZ.nx (h : IZ B v n Z w) (hf : f < B) : NX w f v n Z := by
  obtain ⟨h1, ⟨rfl, h2⟩ | ⟨g, cap, cur, rfl, hB, hg, hn, _, hs, ht⟩⟩ := h.own
  · subst h2; exact NX.nil _ _ _
  · refine ⟨_, cap, rfl, hn, .inr ⟨g, 0, rfl, lt_of_block hg, by omega, fun j hj => ?_⟩⟩
    have e := zcells_get Z hj
    rw [← ht, Nat.mul_one, List.getElem?_take, if_pos hj] at e
    rw [Nat.zero_add, cell_of_row w g j _ _ _ hg]
    simpa using e
theorem IZ.keep (h : IZ B v n Z w) (hb : Below w.heap.size w w') : IZ B v n Z w' := by
  refine ⟨h.own.1, ?_⟩
  rcases h.own.2 with h2 | ⟨g, cap, cur, e, hB, hg, r⟩
  · exact .inl h2
  · exact .inr ⟨g, cap, cur, e, hB, (hb.block g (lt_of_block hg)).trans hg, r⟩
theorem IZ.neo {b : Nat} {r c : Int} {u : Value} (hI : IZ B v n Z w) (h : Bx w b r c u) : v.ownBlock ≠ some b := by
  intro e
  obtain ⟨_, ⟨rfl, _⟩ | ⟨g, cap, cur, rfl, _, hg, _⟩⟩ := hI.own
  · simp [Value.ownBlock] at e
  · simp only [Value.ownBlock, Option.some.injEq] at e
    subst e
    unfold Bx at h
    rw [hg] at h
    simp at h
theorem IZ.lt (h : IZ B v n Z w) (b : Nat) (hb : v.ownBlock = some b) : B ≤ b ∧ b < w.heap.size := by
  obtain ⟨h1, ⟨rfl, h2⟩ | ⟨g, cap, cur, rfl, hB, hg, _⟩⟩ := h.own
  · simp [Value.ownBlock] at hb
  · simp only [Value.ownBlock, Option.some.injEq] at hb
    subst hb
    exact ⟨hB, lt_of_block hg⟩
/-- One list behind another. -/
def cat (n : Nat) (Z Y : Nat → Int) : Nat → Int := fun t => if t < n then Z t else Y (t - n)
theorem zcells_cat (n m : Nat) (Z Y : Nat → Int) : zcells n Z ++ zcells m Y = zcells (n + m) (cat n Z Y) := by
  apply List.ext_getElem?
  intro i
  by_cases h1 : i < n
  · rw [List.getElem?_append_left (by rw [zcells_length]; exact h1), zcells_get _ h1, zcells_get _ (by omega), cat, if_pos h1]
  · rw [List.getElem?_append_right (by rw [zcells_length]; omega), zcells_length]
    by_cases h2 : i < n + m
    · rw [zcells_get _ (by omega), zcells_get _ h2, cat, if_neg h1]
    · rw [List.getElem?_eq_none (by rw [zcells_length]; omega), List.getElem?_eq_none (by rw [zcells_length]; omega)]
theorem IZ.app (h : IZ B v n Z w) {m : Nat} {vl : Value} {Y : Nat → Int} (hl : NX w f vl m Y) (hnil : ∀ c, vl = .slice none m c → c = 0) (hb : (n + m) * 8 ≤ 140737488355328) (hB : B ≤ w.heap.size) :
    ∃ v' w', (Builtin.append_ #[22, 22] 22 #[v, vl]).run Try.prog w = .ok v' w' ∧ IZ B v' (n + m) (cat n Z Y) w' ∧ w.grownBy w' v.ownBlock := by
  obtain ⟨i0, hi, hz0, hz1, hz2⟩ := info_parts Try.info3
  obtain ⟨a, c, rfl⟩ := hl.shp
  cases a with
  | none =>
    have h0 : m = 0 := by
      obtain ⟨_, _, e, _, h | ⟨_, _, e', _⟩⟩ := hl
      · exact h
      · simp only [Value.slice.injEq] at e; rw [e'] at e; cases e.1
    subst h0
    obtain rfl := hnil c rfl
    refine ⟨v, w, run_append_owned_none (P := Try.prog) w B 22 22 3 i0 1 Try.underlying22 hi v n _ h.own, ⟨?_⟩, gb_refl _ _⟩
    rw [← zcells_cat]
    simpa [zcells] using h.own
  | some a =>
    obtain ⟨v', w', h1, h2, h3, _⟩ := run_append_own_at (P := Try.prog) w B 22 22 3 i0 (.int .i64 0) 1 8 Try.underlying22 hi hz0 hz1 hz2 rfl (by decide) v n (zcells n Z) h.own a m c (zcells m Y) (by rw [zcells_length, Nat.mul_one]) (fun j u hj => by
      have hj' : j < m := by have := (List.getElem?_eq_some_iff.1 hj).1; rwa [zcells_length] at this
      rw [zcells_get _ hj'] at hj
      cases hj
      obtain ⟨b, o, _, e, _⟩ := hl.at (by omega)
      simp only [Value.slice.injEq, Option.some.injEq] at e
      obtain ⟨rfl, _⟩ := e
      rw [Addr.add_mid]
      exact hl.cell_at j hj') zcells_one (by unfold maxLen; omega) hb hB
    exact ⟨v', w', h1, ⟨by rw [← zcells_cat]; exact h2⟩, h3⟩
end
end Go.Proofs.Ythedeggggbdibaa

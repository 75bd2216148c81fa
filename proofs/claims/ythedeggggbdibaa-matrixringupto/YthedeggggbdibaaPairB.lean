/-
  'a, b := f(..), g(..)' where a and b are structs of three parts: two calls, one behind the other, two new structs in whatever order beside them, two stores. (With the small laws that it stands on.)
-/
import Derived.Test.YthedeggggbdibaaRanksMath
import Derived.OrdersHeld
namespace Go.Proofs.Ythedeggggbdibaa
open Go.RowKit Go.Lib

theorem NX.shp {w : World} {f n : Nat} {v : Value} {Z : Nat → Int} (h : NX w f v n Z) : ∃ a c, v = .slice a n c := by obtain ⟨a, c, e, _⟩ := h; exact ⟨a, c, e⟩
def zcells (n : Nat) (Z : Nat → Int) : List Value := (List.range n).map fun k => Value.int .i64 (Z k)
theorem zcells_length (n : Nat) (Z : Nat → Int) : (zcells n Z).length = n := by simp [zcells]
theorem zcells_get {n i : Nat} (Z : Nat → Int) (h : i < n) : (zcells n Z)[i]? = some (.int .i64 (Z i)) := by
  rw [zcells, List.getElem?_map, List.getElem?_range h]; rfl
theorem zcells_one {n : Nat} {Z : Nat → Int} : ∀ u ∈ zcells n Z, u.oneCell' = true := by
  intro u hu
  obtain ⟨_, _, rfl⟩ := List.mem_map.1 hu
  rfl

theorem NX.put {w w' : World} {f n b : Nat} {ao : Option Addr} {cap : Nat} {Z : Nat → Int} (h : NX w f (.slice ao n cap) n Z) (hl : n = 0 ∨ ∃ g, ao = some ⟨g, 0, none⟩ ∧ g ≠ b) (hg : w.grownBy w' (some b)) : NX w' f (.slice ao n cap) n Z := by
  obtain ⟨a, c, e, hc, h⟩ := h
  refine ⟨a, c, e, hc, ?_⟩
  rcases h with h | ⟨bl, off, rfl, hbl, hf, hcc⟩
  · exact .inl h
  · rcases hl with h | ⟨g, e2, hne⟩
    · exact .inl h
    · simp only [Value.slice.injEq, true_and] at e
      rw [e2] at e
      simp only [Option.some.injEq, Addr.mk.injEq, and_true] at e
      obtain ⟨⟨rfl, rfl⟩, rfl⟩ := e
      exact .inr ⟨g, 0, rfl, Nat.lt_of_lt_of_le hbl hg.size, hf, fun j hj => (cell_congr (hg.block g hbl (by simpa using hne))).trans (hcc j hj)⟩

theorem NX.new {w : World} {f0 f n : Nat} {v : Value} {Z : Nat → Int} (h : NX w f0 v n Z) (hf : w.heap.size ≤ f) : NX w f v n Z := by
  obtain ⟨a, c, e, hc, h⟩ := h
  refine ⟨a, c, e, hc, ?_⟩
  rcases h with h | ⟨bl, off, rfl, hbl, _, hc⟩
  · exact .inl h
  · exact .inr ⟨bl, off, rfl, hbl, by omega, hc⟩

theorem step_alloc24 {ops : Array Oper} {o : Oper} {a : Act} {w : World} {K : Act → World → Prop} {Q : Exit → Act → World → Prop} {E : Prop} (hgd : o.guard = none) (ho : o.op = .alloc 24)
    (h : ∀ w', Bx w' w.heap.size 0 0 (.slice none 0 0) → Below w.heap.size w w' → K (a.put o.dst (.pointer (some ⟨w.heap.size, 0, none⟩))) w') :
    if Region.wanted o (yielded ops a.tmps) = true then Oper.wp Try.prog o a w K Q else E := by
  have hw : Region.wanted o (yielded ops a.tmps) = true := by simp [Region.wanted, hgd]
  rw [if_pos hw]
  have h' := h (w.alloc (.cells #[.int .i64 0, .int .i64 0, .slice none 0 0] 24)) (Bx.new _ _ _ _) (below_alloc (Below.refl _ _) _)
  clear h
  unfold Oper.wp execOp
  simp only [ho]
  go_simp
  exact h'
theorem step_alloc24b {B : Nat} {w0 : World} {ops : Array Oper} {o : Oper} {a : Act} {w : World} {K : Act → World → Prop} {Q : Exit → Act → World → Prop} {E : Prop} (hgd : o.guard = none) (ho : o.op = .alloc 24) (hB : Below B w0 w) (hs : B ≤ w.heap.size)
    (h : ∀ w', Bx w' w.heap.size 0 0 (.slice none 0 0) → Below w.heap.size w w' → Below B w0 w' → K (a.put o.dst (.pointer (some ⟨w.heap.size, 0, none⟩))) w') :
    if Region.wanted o (yielded ops a.tmps) = true then Oper.wp Try.prog o a w K Q else E :=
  step_alloc24 hgd ho (fun w' h1 h2 => h w' h1 h2 (hB.trans (h2.mono hs)))

set_option maxRecDepth 100000 in
theorem step_call {ops : Array Oper} {o : Oper} {a : Act} {w : World} {K : Act → World → Prop} {Q : Exit → Act → World → Prop} {E : Prop} (hgd : o.guard = none) {fn : Nat} {args : Array Operand} {tys : Array TypeId}
    (ho : o.op = .call { callee := .value (.func fn), args := args, argTypes := tys }) {vals : Array Value} (hv : args.map a.eval = vals) (hf : Sem.run Try.prog (callFunc fn vals) w = .ok (.enter fn vals) w)
    (h : Calls Try.prog fn vals w fun e w' => ∃ v, e = .returned v ∧ K (a.put o.dst v) w') :
    if Region.wanted o (yielded ops a.tmps) = true then Oper.wp Try.prog o a w K Q else E := by
  have hw : Region.wanted o (yielded ops a.tmps) = true := by simp [Region.wanted, hgd]
  rw [if_pos hw]
  subst hv
  unfold Oper.wp execOp
  simp only [ho]
  go_simp
  refine h.mono ?_
  rintro e w' ⟨v, rfl, h⟩
  exact h

set_option maxRecDepth 100000 in
theorem step_store24 {ops : Array Oper} {o : Oper} {a : Act} {w : World} {K : Act → World → Prop} {Q : Exit → Act → World → Prop} {E : Prop} (hgd : o.guard = none) (hd : o.dst = none) {p s : Operand} (ho : o.op = .store 24 p s)
    {b : Nat} {r c r0 c0 : Int} {v0 : Value} {ao : Option Addr} {n cap : Nat} (hp : a.eval p = .pointer (some ⟨b, 0, none⟩)) (hs : a.eval s = .agg #[.int .i64 r, .int .i64 c, .slice ao n cap]) (hB : Bx w b r0 c0 v0)
    (h : ∀ w', Bx w' b r c (.slice ao n cap) → w.grownBy w' (some b) → K a w') :
    if Region.wanted o (yielded ops a.tmps) = true then Oper.wp Try.prog o a w K Q else E := by
  have hw : Region.wanted o (yielded ops a.tmps) = true := by simp [Region.wanted, hgd]
  rw [if_pos hw]
  have b0 := hB.cell0
  have b1 := hB.cell1
  have b2 := hB.cell2
  have f0 := hB.free
  obtain ⟨h1, h2⟩ := hB.put r c (.slice ao n cap)
  have h' := h _ h1 h2
  clear h h1 h2
  unfold Oper.wp execOp
  simp only [ho, hp, hs]
  go_simp
  exact h'

def st4 (A : Act) (dA dB dX dY : Nat) (xA xB xX xY : Value) : Act := ⟨(((A.tmps.setIfInBounds dA xA).setIfInBounds dB xB).setIfInBounds dX xX).setIfInBounds dY xY, A.defers⟩
structure Dist4 (n dA dB dX dY : Nat) : Prop where
  a : dA < n
  b : dB < n
  x : dX < n
  y : dY < n
  ab : dA ≠ dB
  ax : dA ≠ dX
  ay : dA ≠ dY
  bx : dB ≠ dX
  by_ : dB ≠ dY
  xy : dX ≠ dY
section
variable {A : Act} {dA dB dX dY : Nat} {xA xB xX xY v : Value}
theorem st4_A (h : Dist4 A.tmps.size dA dB dX dY) : (st4 A dA dB dX dY xA xB xX xY).put (some dA) v = st4 A dA dB dX dY v xB xX xY := by
  unfold st4 Act.put
  simp only
  rw [Array.setIfInBounds_comm _ _ h.ay.symm, Array.setIfInBounds_comm _ _ h.ax.symm, Array.setIfInBounds_comm _ _ h.ab.symm, Array.setIfInBounds_setIfInBounds]
theorem st4_B (h : Dist4 A.tmps.size dA dB dX dY) : (st4 A dA dB dX dY xA xB xX xY).put (some dB) v = st4 A dA dB dX dY xA v xX xY := by
  unfold st4 Act.put
  simp only
  rw [Array.setIfInBounds_comm _ _ h.by_.symm, Array.setIfInBounds_comm _ _ h.bx.symm, Array.setIfInBounds_setIfInBounds]
theorem st4_X (h : Dist4 A.tmps.size dA dB dX dY) : (st4 A dA dB dX dY xA xB xX xY).put (some dX) v = st4 A dA dB dX dY xA xB v xY := by
  unfold st4 Act.put
  simp only
  rw [Array.setIfInBounds_comm _ _ h.xy.symm, Array.setIfInBounds_setIfInBounds]
theorem st4_Y : (st4 A dA dB dX dY xA xB xX xY).put (some dY) v = st4 A dA dB dX dY xA xB xX v := by
  unfold st4 Act.put
  simp only
  rw [Array.setIfInBounds_setIfInBounds]
theorem st4_getA (h : Dist4 A.tmps.size dA dB dX dY) : (st4 A dA dB dX dY xA xB xX xY).eval (.tmp dA) = xA := by
  simp [st4, Act.eval, h.a, h.ab.symm, h.ax.symm, h.ay.symm]
theorem st4_getB (h : Dist4 A.tmps.size dA dB dX dY) : (st4 A dA dB dX dY xA xB xX xY).eval (.tmp dB) = xB := by
  simp [st4, Act.eval, h.b, h.bx.symm, h.by_.symm]
theorem st4_getX (h : Dist4 A.tmps.size dA dB dX dY) : (st4 A dA dB dX dY xA xB xX xY).eval (.tmp dX) = xX := by
  simp [st4, Act.eval, h.x, h.xy.symm]
theorem st4_getY (h : Dist4 A.tmps.size dA dB dX dY) : (st4 A dA dB dX dY xA xB xX xY).eval (.tmp dY) = xY := by
  simp [st4, Act.eval, h.y]
theorem set_own (T : Array Value) (i : Nat) (u : Value) : T.setIfInBounds i (T.getD i u) = T := by
  apply Array.ext_getElem?
  intro j
  rw [Array.getElem?_setIfInBounds]
  split
  · rename_i e
    subst e
    split
    · rename_i h; simp [h]
    · rename_i h; rw [Array.getElem?_eq_none (by omega)]
  · rfl
end
theorem st4_self (A : Act) (dA dB dX dY : Nat) : ∃ xA xB xX xY, A = st4 A dA dB dX dY xA xB xX xY :=
  ⟨_, _, _, _, by unfold st4; rw [set_own A.tmps dA undef, set_own A.tmps dB undef, set_own A.tmps dX undef, set_own A.tmps dY undef]⟩

structure PJ (W : World) (RA RB : Value → World → Prop) (c : Nat) (x y : Bool) (xA xB xX xY : Value) (w : World) : Prop where
  bel : Below W.heap.size W w
  ra : 1 ≤ c → RA xA w
  rb : 2 ≤ c → RB xB w
  bx : x = true → ∃ b, xX = .pointer (some ⟨b, 0, none⟩) ∧ W.heap.size ≤ b ∧ Bx w b 0 0 (.slice none 0 0)
  by_ : y = true → ∃ b, xY = .pointer (some ⟨b, 0, none⟩) ∧ W.heap.size ≤ b ∧ Bx w b 0 0 (.slice none 0 0)
  ne : x = true → y = true → xX ≠ xY
/-- What a result keeps: new memory beside it, a store into a struct. -/
structure Stays (R : Value → World → Prop) (r c : Int) : Prop where
  bel : ∀ v w w', R v w → Below w.heap.size w w' → R v w'
  put : ∀ v w w' b r' c' u, R v w → Bx w b r' c' u → w.grownBy w' (some b) → R v w'
  shp : ∀ v w, R v w → ∃ a n k, v = .agg #[.int .i64 r, .int .i64 c, .slice a n k]
/-- A matrix that 'of' has made: its members lie in a block of their own, or there are none. -/
def GX (f : Nat) (r c : Int) (n : Nat) (Z : Nat → Int) (v : Value) (w : World) : Prop :=
  ∃ ao cap, v = .agg #[.int .i64 r, .int .i64 c, .slice ao n cap] ∧ NX w f (.slice ao n cap) n Z ∧ (n = 0 ∨ ∃ g cs, ao = some ⟨g, 0, none⟩ ∧ w.heap[g]? = some (.cells cs 3 (0, 0)))
theorem GX.stays (f : Nat) (r c : Int) (n : Nat) (Z : Nat → Int) : Stays (GX f r c n Z) r c where
  bel := fun v w w' ⟨ao, cap, e, h, hl⟩ hb => ⟨ao, cap, e, h.below hb, hl.imp id fun ⟨g, cs, e1, e2⟩ => ⟨g, cs, e1, (hb.block g (lt_of_block e2)).trans e2⟩⟩
  put := fun v w w' b r' c' u ⟨ao, cap, e, h, hl⟩ hB hg => by
    have hl2 : n = 0 ∨ ∃ g cs, ao = some ⟨g, 0, none⟩ ∧ w.heap[g]? = some (.cells cs 3 (0, 0)) ∧ g ≠ b := by
      rcases hl with h | ⟨g, cs, e1, e2⟩
      · exact .inl h
      · refine .inr ⟨g, cs, e1, e2, fun e => ?_⟩
        subst e
        unfold Bx at hB
        rw [e2] at hB
        simp at hB
    refine ⟨ao, cap, e, h.put (hl2.imp id fun ⟨g, cs, e1, _, e3⟩ => ⟨g, e1, e3⟩) hg, hl2.imp id fun ⟨g, cs, e1, e2, e3⟩ => ⟨g, cs, e1, (hg.block g (lt_of_block e2) (by simpa using e3)).trans e2⟩⟩
  shp := fun v w ⟨ao, cap, e, _⟩ => ⟨ao, n, cap, e⟩
theorem PJ.grow {W w w' : World} {RA RB : Value → World → Prop} {ra ca rb cb : Int} {c : Nat} {x y : Bool} {xA xB xX xY : Value} (hA : Stays RA ra ca) (hB : Stays RB rb cb) (h : PJ W RA RB c x y xA xB xX xY w) (hb : Below w.heap.size w w') : PJ W RA RB c x y xA xB xX xY w' where
  bel := below_step h.bel hb
  ra := fun hc => hA.bel _ _ _ (h.ra hc) hb
  rb := fun hc => hB.bel _ _ _ (h.rb hc) hb
  bx := fun hx => by obtain ⟨b, e, hl, hB⟩ := h.bx hx; exact ⟨b, e, hl, hB.below hb (Nat.le_refl _)⟩
  by_ := fun hx => by obtain ⟨b, e, hl, hB⟩ := h.by_ hx; exact ⟨b, e, hl, hB.below hb (Nat.le_refl _)⟩
  ne := h.ne

/-- An operation that reads alone is taken first. -/
theorem take_at {ops : Array Oper} {Q : Exit → Act → World → Prop} {S : World → Prop} {i d : Nat} {oi : Oper} {v : Value} {fuel : Nat} {listed : Array Bool} {a : Act} {w : World} (hi : ops[i]? = some oi) (hd : oi.dst = some d)
    (hs : Region.noSelect ops = true) (hf : Region.free .any ops listed i = true) (hr : (Region.ready .any ops listed).contains i = true)
    (hQ : ∀ c a w, Q (.panic c) (a.put oi.dst v) w → Q (.panic c) a w) (hy : YieldsIf Try.prog ops S oi v a) (hS : S w)
    (h : wpAnyH Try.prog .any ops Q S fuel (listed.setIfInBounds i true) ⟨a.tmps.setIfInBounds d v, a.defers⟩ w) : wpAnyH Try.prog .any ops Q S (fuel + 1) listed a w :=
  wpAnyH_take hi hs hf hr hQ hy hS (by rw [hd]; exact h)

def al (iX iY : Nat) (x y : Bool) : List Nat := (if x then [] else [iX]) ++ (if y then [] else [iY])
structure PairOps (ops : Array Oper) (A : Act) (lst : Nat → Bool → Bool → Array Bool) (lP lQ : Array Bool) (iA iB iX iY iP iQ dA dB dX dY fA fB : Nat) (vA vB : Array Value) : Prop where
  d : Dist4 A.tmps.size dA dB dX dY
  oA : ∃ o args tys, ops[iA]? = some o ∧ o.guard = none ∧ o.dst = some dA ∧ o.op = .call { callee := .value (.func fA), args := args, argTypes := tys } ∧ ∀ xA xB xX xY, args.map (st4 A dA dB dX dY xA xB xX xY).eval = vA
  oB : ∃ o args tys, ops[iB]? = some o ∧ o.guard = none ∧ o.dst = some dB ∧ o.op = .call { callee := .value (.func fB), args := args, argTypes := tys } ∧ ∀ xA xB xX xY, args.map (st4 A dA dB dX dY xA xB xX xY).eval = vB
  fA : ∀ w, Sem.run Try.prog (callFunc fA vA) w = .ok (.enter fA vA) w
  fB : ∀ w, Sem.run Try.prog (callFunc fB vB) w = .ok (.enter fB vB) w
  oX : ∃ o, ops[iX]? = some o ∧ o.guard = none ∧ o.dst = some dX ∧ o.op = .alloc 24
  oY : ∃ o, ops[iY]? = some o ∧ o.guard = none ∧ o.dst = some dY ∧ o.op = .alloc 24
  oP : ∃ o, ops[iP]? = some o ∧ o.guard = none ∧ o.dst = none ∧ o.op = .store 24 (.tmp dX) (.tmp dA)
  oQ : ∃ o, ops[iQ]? = some o ∧ o.guard = none ∧ o.dst = none ∧ o.op = .store 24 (.tmp dY) (.tmp dB)
  r0 : ∀ x y, Region.ready .any ops (lst 0 x y) = iA :: al iX iY x y
  r1 : ∀ x y, Region.ready .any ops (lst 1 x y) = iB :: al iX iY x y
  r2 : ∀ x y, (x && y) = false → Region.ready .any ops (lst 2 x y) = al iX iY x y
  rP : Region.ready .any ops (lst 2 true true) = [iP]
  rQ : Region.ready .any ops lP = [iQ]
  rE : Region.ready .any ops lQ = []
  sA : ∀ x y, (lst 0 x y).setIfInBounds iA true = lst 1 x y
  sB : ∀ x y, (lst 1 x y).setIfInBounds iB true = lst 2 x y
  sX : ∀ c y, (lst c false y).setIfInBounds iX true = lst c true y
  sY : ∀ c x, (lst c x false).setIfInBounds iY true = lst c x true
  sP : (lst 2 true true).setIfInBounds iP true = lP
  sQ : lP.setIfInBounds iQ true = lQ

section
variable {ops : Array Oper} {A : Act} {lst : Nat → Bool → Bool → Array Bool} {lP lQ : Array Bool} {iA iB iX iY iP iQ dA dB dX dY fA fB : Nat} {vA vB : Array Value} {RA RB : Value → World → Prop} {ra ca rb cb : Int} {W : World} {S : World → Prop} {Q : Exit → Act → World → Prop}

theorem pair_end (H : PairOps ops A lst lP lQ iA iB iX iY iP iQ dA dB dX dY fA fB vA vB) (hA : Stays RA ra ca) (hB : Stays RB rb cb) (hS : ∀ w', Below W.heap.size W w' → S w')
    (hend : ∀ bX bY a n k a' n' k' w, RA (.agg #[.int .i64 ra, .int .i64 ca, .slice a n k]) w → RB (.agg #[.int .i64 rb, .int .i64 cb, .slice a' n' k']) w → Bx w bX ra ca (.slice a n k) → Bx w bY rb cb (.slice a' n' k') → bX ≠ bY → W.heap.size ≤ bX → W.heap.size ≤ bY → Below W.heap.size W w →
      Q .normal (st4 A dA dB dX dY (.agg #[.int .i64 ra, .int .i64 ca, .slice a n k]) (.agg #[.int .i64 rb, .int .i64 cb, .slice a' n' k']) (.pointer (some ⟨bX, 0, none⟩)) (.pointer (some ⟨bY, 0, none⟩))) w)
    {xA xB xX xY : Value} {w : World} (h : PJ W RA RB 2 true true xA xB xX xY w) : wpAnyH Try.prog .any ops Q S 2 (lst 2 true true) (st4 A dA dB dX dY xA xB xX xY) w := by
  have hra := h.ra (by omega)
  have hrb := h.rb (by omega)
  obtain ⟨a, n, k, rfl⟩ := hA.shp _ _ hra
  obtain ⟨a', n', k', rfl⟩ := hB.shp _ _ hrb
  obtain ⟨bX, rfl, lX, hX⟩ := h.bx rfl
  obtain ⟨bY, rfl, lY, hY⟩ := h.by_ rfl
  have ne : bX ≠ bY := fun e => h.ne rfl rfl (by rw [e])
  obtain ⟨oP, p1, p2, p3, p4⟩ := H.oP
  obtain ⟨oQ, q1, q2, q3, q4⟩ := H.oQ
  refine wpAnyH_all H.rP (by simp) ?_
  intro i hi
  obtain rfl : i = iP := by simpa using hi
  refine wpOp_step p1 (fun K' hK => ?_)
  refine step_store24 p2 p3 p4 (st4_getX H.d) (st4_getA H.d) hX ?_
  intro w1 hX1 g1
  have b1 : Below W.heap.size W w1 := below_gb h.bel g1 lX h.bel.size
  have ra1 := hA.put _ _ _ _ _ _ _ hra hX g1
  have rb1 := hB.put _ _ _ _ _ _ _ hrb hX g1
  have hY1 := hY.grown g1 ne.symm
  refine hK _ _ ⟨hS _ b1, ?_⟩
  rw [H.sP]
  refine wpAnyH_all H.rQ (by simp) ?_
  intro i hi
  obtain rfl : i = iQ := by simpa using hi
  refine wpOp_step q1 (fun K' hK => ?_)
  refine step_store24 q2 q3 q4 (st4_getY H.d) (st4_getB H.d) hY1 ?_
  intro w2 hY2 g2
  have b2 : Below W.heap.size W w2 := below_gb b1 g2 lY b1.size
  have ra2 := hA.put _ _ _ _ _ _ _ ra1 hY1 g2
  have rb2 := hB.put _ _ _ _ _ _ _ rb1 hY1 g2
  have hX2 := hX1.grown g2 ne
  refine hK _ _ ⟨hS _ b2, ?_⟩
  rw [H.sQ]
  exact wpAnyH_done H.rE (hend _ _ _ _ _ _ _ _ _ ra2 rb2 hX2 hY2 ne lX lY b2) _

theorem pair_any (H : PairOps ops A lst lP lQ iA iB iX iY iP iQ dA dB dX dY fA fB vA vB) (hA : Stays RA ra ca) (hB : Stays RB rb cb) (hS : ∀ w', Below W.heap.size W w' → S w')
    (cA : ∀ w, Below W.heap.size W w → Calls Try.prog fA vA w fun e w' => ∃ v, e = .returned v ∧ RA v w' ∧ Below w.heap.size w w')
    (cB : ∀ w, Below W.heap.size W w → Calls Try.prog fB vB w fun e w' => ∃ v, e = .returned v ∧ RB v w' ∧ Below w.heap.size w w')
    (hend : ∀ bX bY a n k a' n' k' w, RA (.agg #[.int .i64 ra, .int .i64 ca, .slice a n k]) w → RB (.agg #[.int .i64 rb, .int .i64 cb, .slice a' n' k']) w → Bx w bX ra ca (.slice a n k) → Bx w bY rb cb (.slice a' n' k') → bX ≠ bY → W.heap.size ≤ bX → W.heap.size ≤ bY → Below W.heap.size W w →
      Q .normal (st4 A dA dB dX dY (.agg #[.int .i64 ra, .int .i64 ca, .slice a n k]) (.agg #[.int .i64 rb, .int .i64 cb, .slice a' n' k']) (.pointer (some ⟨bX, 0, none⟩)) (.pointer (some ⟨bY, 0, none⟩))) w) :
    ∀ (m c : Nat) (x y : Bool) (xA xB xX xY : Value) (w : World), c ≤ 2 → m = (2 - c) + (if x then 0 else 1) + (if y then 0 else 1) + 2 → PJ W RA RB c x y xA xB xX xY w →
      wpAnyH Try.prog .any ops Q S m (lst c x y) (st4 A dA dB dX dY xA xB xX xY) w := by
  intro m
  induction m with
  | zero => intro c x y xA xB xX xY w _ hm; omega
  | succ m ih =>
    intro c x y xA xB xX xY w hc hm h
    by_cases hfull : c = 2 ∧ x = true ∧ y = true
    · obtain ⟨rfl, rfl, rfl⟩ := hfull
      obtain rfl : m = 1 := by simpa using hm
      exact pair_end H hA hB hS hend h
    have stepX : x = false → wpOp Try.prog ops Q iX (fun a' w' => S w' ∧ wpAnyH Try.prog .any ops Q S m ((lst c x y).setIfInBounds iX true) a' w') (st4 A dA dB dX dY xA xB xX xY) w := by
      rintro rfl
      obtain ⟨o, p1, p2, p3, p4⟩ := H.oX
      refine wpOp_step p1 (fun K' hK => ?_)
      refine step_alloc24 p2 p4 ?_
      intro w1 hX1 hb
      have h1 := h.grow hA hB hb
      rw [p3, st4_X H.d, H.sX] at *
      refine hK _ _ ⟨hS _ h1.bel, ?_⟩
      refine ih c true y _ _ _ _ _ hc (by simp at hm ⊢; omega) ⟨h1.bel, h1.ra, h1.rb, fun _ => ⟨_, rfl, h.bel.size, hX1⟩, h1.by_, fun _ hy e => ?_⟩
      obtain ⟨b, e', _, hB'⟩ := h.by_ hy
      rw [e'] at e
      simp only [Value.pointer.injEq, Option.some.injEq, Addr.mk.injEq, and_true] at e
      have := hB'.lt
      omega
    have stepY : y = false → wpOp Try.prog ops Q iY (fun a' w' => S w' ∧ wpAnyH Try.prog .any ops Q S m ((lst c x y).setIfInBounds iY true) a' w') (st4 A dA dB dX dY xA xB xX xY) w := by
      rintro rfl
      obtain ⟨o, p1, p2, p3, p4⟩ := H.oY
      refine wpOp_step p1 (fun K' hK => ?_)
      refine step_alloc24 p2 p4 ?_
      intro w1 hX1 hb
      have h1 := h.grow hA hB hb
      rw [p3, st4_Y, H.sY] at *
      refine hK _ _ ⟨hS _ h1.bel, ?_⟩
      refine ih c x true _ _ _ _ _ hc (by simp at hm ⊢; omega) ⟨h1.bel, h1.ra, h1.rb, h1.bx, fun _ => ⟨_, rfl, h.bel.size, hX1⟩, fun hx _ e => ?_⟩
      obtain ⟨b, e', _, hB'⟩ := h.bx hx
      rw [e'] at e
      simp only [Value.pointer.injEq, Option.some.injEq, Addr.mk.injEq, and_true] at e
      have := hB'.lt
      omega
    have stepAl : ∀ i ∈ al iX iY x y, wpOp Try.prog ops Q i (fun a' w' => S w' ∧ wpAnyH Try.prog .any ops Q S m ((lst c x y).setIfInBounds i true) a' w') (st4 A dA dB dX dY xA xB xX xY) w := by
      intro i hi
      unfold al at hi
      rcases List.mem_append.1 hi with hi | hi
      · cases x with
        | true => simp at hi
        | false => obtain rfl : i = iX := by simpa using hi
                   exact stepX rfl
      · cases y with
        | true => simp at hi
        | false => obtain rfl : i = iY := by simpa using hi
                   exact stepY rfl
    match c, hc with
    | 0, _ =>
      refine wpAnyH_all (H.r0 x y) (by simp) ?_
      intro i hi
      rcases List.mem_cons.1 hi with rfl | hi
      · obtain ⟨o, args, tys, p1, p2, p3, p4, p5⟩ := H.oA
        refine wpOp_step p1 (fun K' hK => ?_)
        refine step_call p2 p4 (p5 _ _ _ _) (H.fA _) ?_
        refine (cA w h.bel).mono ?_
        rintro e w1 ⟨v, rfl, hv, hb⟩
        have h1 := h.grow hA hB hb
        refine ⟨v, rfl, ?_⟩
        rw [p3, st4_A H.d]
        refine hK _ _ ⟨hS _ h1.bel, ?_⟩
        rw [H.sA]
        exact ih 1 x y _ _ _ _ _ (by omega) (by simp at hm ⊢; omega) ⟨h1.bel, fun _ => hv, fun h => by omega, h1.bx, h1.by_, h1.ne⟩
      · exact stepAl i hi
    | 1, _ =>
      refine wpAnyH_all (H.r1 x y) (by simp) ?_
      intro i hi
      rcases List.mem_cons.1 hi with rfl | hi
      · obtain ⟨o, args, tys, p1, p2, p3, p4, p5⟩ := H.oB
        refine wpOp_step p1 (fun K' hK => ?_)
        refine step_call p2 p4 (p5 _ _ _ _) (H.fB _) ?_
        refine (cB w h.bel).mono ?_
        rintro e w1 ⟨v, rfl, hv, hb⟩
        have h1 := h.grow hA hB hb
        refine ⟨v, rfl, ?_⟩
        rw [p3, st4_B H.d]
        refine hK _ _ ⟨hS _ h1.bel, ?_⟩
        rw [H.sB]
        exact ih 2 x y _ _ _ _ _ (by omega) (by simp at hm ⊢; omega) ⟨h1.bel, fun _ => h1.ra (by omega), fun _ => hv, h1.bx, h1.by_, h1.ne⟩
      · exact stepAl i hi
    | 2, _ =>
      have hxy : (x && y) = false := by
        cases x <;> cases y <;> simp_all
      refine wpAnyH_all (H.r2 x y hxy) ?_ stepAl
      cases x <;> cases y <;> simp_all [al]

theorem pair_start {l : Array Bool} {m : Nat} {w : World} (H : PairOps ops A lst lP lQ iA iB iX iY iP iQ dA dB dX dY fA fB vA vB) (hl : l = lst 0 false false) (hm : m = 6) (hb : Below W.heap.size W w) (hA : Stays RA ra ca) (hB : Stays RB rb cb) (hS : ∀ w', Below W.heap.size W w' → S w')
    (cA : ∀ w, Below W.heap.size W w → Calls Try.prog fA vA w fun e w' => ∃ v, e = .returned v ∧ RA v w' ∧ Below w.heap.size w w')
    (cB : ∀ w, Below W.heap.size W w → Calls Try.prog fB vB w fun e w' => ∃ v, e = .returned v ∧ RB v w' ∧ Below w.heap.size w w')
    (hend : ∀ bX bY a n k a' n' k' w, RA (.agg #[.int .i64 ra, .int .i64 ca, .slice a n k]) w → RB (.agg #[.int .i64 rb, .int .i64 cb, .slice a' n' k']) w → Bx w bX ra ca (.slice a n k) → Bx w bY rb cb (.slice a' n' k') → bX ≠ bY → W.heap.size ≤ bX → W.heap.size ≤ bY → Below W.heap.size W w →
      Q .normal (st4 A dA dB dX dY (.agg #[.int .i64 ra, .int .i64 ca, .slice a n k]) (.agg #[.int .i64 rb, .int .i64 cb, .slice a' n' k']) (.pointer (some ⟨bX, 0, none⟩)) (.pointer (some ⟨bY, 0, none⟩))) w) :
    wpAnyH Try.prog .any ops Q S m l A w := by
  subst hl hm
  obtain ⟨xA, xB, xX, xY, e⟩ := st4_self A dA dB dX dY
  have := pair_any H hA hB hS cA cB hend 6 0 false false xA xB xX xY w (by omega) rfl ⟨hb, fun h => by omega, fun h => by omega, fun h => (by cases h), fun h => (by cases h), fun h => (by cases h)⟩
  rwa [← e] at this
end
end Go.Proofs.Ythedeggggbdibaa

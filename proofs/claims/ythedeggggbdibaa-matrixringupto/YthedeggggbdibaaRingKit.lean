/-
  What the walk of MatrixRing keeps; the matrix of two lists, one behind the other.
-/
import Derived.Test.YthedeggggbdibaaMade2
import Derived.Test.YthedeggggbdibaaChain
namespace Go.Proofs.Ythedeggggbdibaa
open Go.RowKit Go.Lib

/-- An array of three numbers in a block of its own. -/
def Ay (w : World) (b : Nat) (x y z : Int) : Prop := w.heap[b]? = some (.cells #[.int .i64 x, .int .i64 y, .int .i64 z] 56 (0, 0))
section
variable {w w' : World} {b : Nat} {x y z : Int}
theorem Ay.lt (h : Ay w b x y z) : b < w.heap.size := lt_of_block h
theorem Ay.cell0 (h : Ay w b x y z) : w.cell? ⟨b, 0, none⟩ = some (.int .i64 x) := by rw [cell_of_row w b 0 _ _ _ h]; rfl
theorem Ay.cell1 (h : Ay w b x y z) : w.cell? ⟨b, 1, none⟩ = some (.int .i64 y) := by rw [cell_of_row w b 1 _ _ _ h]; rfl
theorem Ay.cell2 (h : Ay w b x y z) : w.cell? ⟨b, 2, none⟩ = some (.int .i64 z) := by rw [cell_of_row w b 2 _ _ _ h]; rfl
theorem Ay.of_block (h : Ay w b x y z) (hb : w'.heap[b]? = w.heap[b]?) : Ay w' b x y z := hb.trans h
theorem Ay.below {B : Nat} (h : Ay w b x y z) (ht : Below B w w') (hB : w.heap.size ≤ B) : Ay w' b x y z := h.of_block (ht.block b (Nat.lt_of_lt_of_le h.lt hB))
theorem Ay.new (w : World) (x y z : Int) : Ay (w.alloc (.cells #[.int .i64 x, .int .i64 y, .int .i64 z] 56)) w.heap.size x y z := heap_alloc_new w _
theorem Ay.go {sb f : Nat} (h : Ay w b x y z) (hS : SP w sb f) (hg : w.grownBy w' (some f)) : Ay w' b x y z := by
  refine h.of_block (hg.block b h.lt (by
    simp
    intro e
    subst e
    unfold Ay at h
    rcases hS.fl with z | ⟨_, _, z, _⟩ <;> (unfold FB at z; rw [h] at z; simp at z)))
end

/-- A struct in a block, and what its list tells. -/
structure BE where
  b : Nat
  r : Int
  c : Int
  v : Value
  n : Nat
  Z : Nat → Int
def BE.ok (f : Nat) (e : BE) (w : World) : Prop := Bx w e.b e.r e.c e.v ∧ NX w f e.v e.n e.Z
structure RG (W0 : World) (sb f p : Nat) (x y z : Int) (vl vk : Value) (nl nk : Nat) (Zl Zk : Nat → Int) (L : List BE) (w : World) : Prop where
  sp : SP w sb f
  ay : Ay w p x y z
  xl : NX w f vl nl Zl
  xk : NX w f vk nk Zk
  all : ∀ e ∈ L, e.ok f w
  bel : Below W0.heap.size W0 w
  lf : W0.heap.size ≤ f
section
variable {W0 w w' : World} {sb f p : Nat} {x y z : Int} {vl vk : Value} {nl nk : Nat} {Zl Zk : Nat → Int} {L : List BE}
theorem RG.below (h : RG W0 sb f p x y z vl vk nl nk Zl Zk L w) (hb : Below w.heap.size w w') : RG W0 sb f p x y z vl vk nl nk Zl Zk L w' where
  sp := h.sp.below hb (Nat.le_refl _)
  ay := h.ay.below hb (Nat.le_refl _)
  xl := h.xl.below hb
  xk := h.xk.below hb
  all := fun e he => ⟨(h.all e he).1.below hb (Nat.le_refl _), (h.all e he).2.below hb⟩
  bel := below_step h.bel hb
  lf := h.lf
theorem RG.alloc (h : RG W0 sb f p x y z vl vk nl nk Zl Zk L w) (o : Obj) : RG W0 sb f p x y z vl vk nl nk Zl Zk L (w.alloc o) := h.below (below_alloc (Below.refl _ _) o)
theorem RG.go (h : RG W0 sb f p x y z vl vk nl nk Zl Zk L w) (hS : SP w' sb f) (hg : w.grownBy w' (some f)) : RG W0 sb f p x y z vl vk nl nk Zl Zk L w' where
  sp := hS
  ay := h.ay.go h.sp hg
  xl := h.xl.grown hg
  xk := h.xk.grown hg
  all := fun e he => ⟨(h.all e he).1.go h.sp hg, (h.all e he).2.grown hg⟩
  bel := below_gb h.bel hg h.lf h.bel.size
  lf := h.lf
theorem RG.add (h : RG W0 sb f p x y z vl vk nl nk Zl Zk L w) (e : BE) (he : e.ok f w) : RG W0 sb f p x y z vl vk nl nk Zl Zk (e :: L) w :=
  { h with all := fun e' h' => (List.mem_cons.1 h').elim (fun q => q ▸ he) (h.all e') }
/-- A new struct, beside all that is. -/
theorem RG.box (h : RG W0 sb f p x y z vl vk nl nk Zl Zk L w) (r c : Int) {v : Value} {n : Nat} {Z : Nat → Int} (hv : NX w f v n Z) : RG W0 sb f p x y z vl vk nl nk Zl Zk (⟨w.heap.size, r, c, v, n, Z⟩ :: L) (w.alloc (.cells #[.int .i64 r, .int .i64 c, v] 24)) :=
  (h.alloc _).add _ ⟨Bx.new w r c v, hv.alloc _⟩
end

theorem nx_congr {w : World} {f n : Nat} {v : Value} {Z Z' : Nat → Int} (h : NX w f v n Z) (e : ∀ t, t < n → Z t = Z' t) : NX w f v n Z' := by
  obtain ⟨a, c, rfl, hc, h⟩ := h
  refine ⟨a, c, rfl, hc, ?_⟩
  rcases h with h | ⟨bl, off, rfl, hbl, hf, hc⟩
  · exact .inl h
  · exact .inr ⟨bl, off, rfl, hbl, hf, fun j hj => by rw [← e j hj]; exact hc j hj⟩
theorem cat_zero (Z Y : Nat → Int) : cat 0 Z Y = Y := by funext t; simp [cat]
theorem Bx.apart {w w' : World} {row : Option Nat} (hg : w.grownBy w' row) (h : ∀ b r c u, Bx w b r c u → row ≠ some b) : ∀ b r c u, Bx w b r c u → Bx w' b r c u :=
  fun b r c u hB => hB.of_block (hg.block b hB.lt (fun e => h b r c u hB e.symm))

/-- The operations of 'c := made(size[2], size[0], append(append([]int{}, k...), l...))' that do not read alone. -/
structure COps (ops : Array Oper) (A : Act) (x z : Int) (vl vk : Value) : Prop where
  o4 : ∃ o, ops[4]? = some o ∧ o.guard = none ∧ o.dst = some 60 ∧ o.op = .buildSlice 22 0 #[]
  o6 : ∃ o, ops[6]? = some o ∧ o.guard = none ∧ o.dst = some 62 ∧ o.type = 22 ∧ o.op = .call { callee := .builtin .append, args := #[.tmp 60, .tmp 61], argTypes := #[22, 22] }
  o8 : ∃ o, ops[8]? = some o ∧ o.guard = none ∧ o.dst = some 64 ∧ o.type = 22 ∧ o.op = .call { callee := .builtin .append, args := #[.tmp 62, .tmp 63], argTypes := #[22, 22] }
  o9 : ∃ o, ops[9]? = some o ∧ o.guard = none ∧ o.dst = some 65 ∧ o.op = .call { callee := .value (.func 32), args := #[.tmp 57, .tmp 59, .tmp 64], argTypes := #[3, 3, 22] }
  e57 : A.eval (.tmp 57) = .int .i64 z
  e59 : A.eval (.tmp 59) = .int .i64 x
  e61 : A.eval (.tmp 61) = vk
  e63 : A.eval (.tmp 63) = vl
  sz : A.tmps.size = 206
  fn : ∀ w v, Sem.run Try.prog (callFunc 32 v) w = .ok (.enter 32 v) w

def cI (A : Act) (B f : Nat) (r c : Int) (N nl nk : Nat) (Zl Zk ZC : Nat → Int) (k : Nat) (a : Act) (w : World) : Prop :=
  Off A a [60, 62, 64, 65, 10] ∧ (k = 1 → IZ B (a.eval (.tmp 60)) 0 Zk w) ∧ (k = 2 → IZ B (a.eval (.tmp 62)) nk Zk w) ∧ (k = 3 → IZ B (a.eval (.tmp 64)) (nk + nl) (cat nk Zk Zl) w) ∧ (k = 4 → GX f r c N ZC (a.eval (.tmp 65)) w)

theorem ring_c {ops : Array Oper} {lst : Nat → Bool → Array Bool} {lP l : Array Bool} {iC : Nat → Nat} {A : Act} {W w : World} {S : World → Prop} {Q : Exit → Act → World → Prop} {f nl nk m : Nat} {x z : Int} {vl vk : Value} {Zl Zk : Nat → Int}
    (H : ChainOps ops lst lP 4 iC 10 11 10 65) (hC : COps ops A x z vl vk) (h0 : iC 0 = 4) (h1 : iC 1 = 6) (h2 : iC 2 = 8) (h3 : iC 3 = 9) (hl : l = lst 0 false) (hm : m = 6) (hb : Below W.heap.size W w) (hS : ∀ w', Below W.heap.size W w' → S w')
    (hf : f < W.heap.size) (xl : NX W W.heap.size vl nl Zl) (xk : NX W W.heap.size vk nk Zk) (nil1 : ∀ c, vl = .slice none nl c → c = 0) (nil2 : ∀ c, vk = .slice none nk c → c = 0) (hn : (nk + nl) * 8 ≤ 140737488355328)
    (hend : ∀ w' b ao cap v60 v62 v64, GX f ((1 + amg z 5 : Nat) : Int) ((1 + amg x 5 : Nat) : Int) ((1 + amg z 5) * (1 + amg x 5)) (fun t => (((mk (nk + nl) (cat nk Zk Zl) t).v : Nat) : Int)) (.agg #[.int .i64 ((1 + amg z 5 : Nat) : Int), .int .i64 ((1 + amg x 5 : Nat) : Int), .slice ao ((1 + amg z 5) * (1 + amg x 5)) cap]) w' → Bx w' b ((1 + amg z 5 : Nat) : Int) ((1 + amg x 5 : Nat) : Int) (.slice ao ((1 + amg z 5) * (1 + amg x 5)) cap) → Below W.heap.size W w' →
      Q .normal ⟨((((A.tmps.setIfInBounds 60 v60).setIfInBounds 62 v62).setIfInBounds 64 v64).setIfInBounds 65 (.agg #[.int .i64 ((1 + amg z 5 : Nat) : Int), .int .i64 ((1 + amg x 5 : Nat) : Int), .slice ao ((1 + amg z 5) * (1 + amg x 5)) cap])).setIfInBounds 10 (.pointer (some ⟨b, 0, none⟩)), A.defers⟩ w') :
    wpAnyH Try.prog .any ops Q S m l A w := by
  subst hl hm
  have ST := GX.stays f ((1 + amg z 5 : Nat) : Int) ((1 + amg x 5 : Nat) : Int) ((1 + amg z 5) * (1 + amg x 5)) (fun t => (((mk (nk + nl) (cat nk Zk Zl) t).v : Nat) : Int))
  refine chain_any (k := 4) (n := 206) (W := W) (I := cI A W.heap.size f ((1 + amg z 5 : Nat) : Int) ((1 + amg x 5 : Nat) : Int) ((1 + amg z 5) * (1 + amg x 5)) nl nk Zl Zk (fun t => (((mk (nk + nl) (cat nk Zk Zl) t).v : Nat) : Int))) (r0 := ((1 + amg z 5 : Nat) : Int)) (c0 := ((1 + amg x 5 : Nat) : Int)) H hS (by decide) ?_ ?_ ?_ ?_ ?_ 6 0 false A w (by omega) rfl ⟨Off.refl _ _, fun h => by omega, fun h => by omega, fun h => by omega, fun h => by omega⟩ ⟨hb, fun h => by cases h⟩
  · rintro c a w ⟨o, _⟩
    rw [o.size, hC.sz]
  · rintro c a w w' v ⟨o, i1, i2, i3, i4⟩ hb
    refine ⟨o.put (by decide) v, fun h => ?_, fun h => ?_, fun h => ?_, fun h => ?_⟩
    · rw [put_ne (by decide)]; exact (i1 h).keep hb
    · rw [put_ne (by decide)]; exact (i2 h).keep hb
    · rw [put_ne (by decide)]; exact (i3 h).keep hb
    · rw [put_ne (by decide)]; exact ST.bel _ _ _ (i4 h) hb
  · rintro c a w hc ⟨o, i1, i2, i3, i4⟩ hb
    have hsz : a.tmps.size = 206 := o.size.trans hC.sz
    have Xl := (xl.up hb)
    have Xk := (xk.up hb)
    match c, hc with
    | 0, _ =>
      obtain ⟨op, p1, p2, p3, p4⟩ := hC.o4
      refine ⟨op, 60, h0 ▸ p1, by decide, fun K' hK => ?_⟩
      refine step_build0 p2 p4 ?_
      rw [p3]
      refine hK _ _ ⟨o.put (by decide) _, fun _ => ?_, fun h => by omega, fun h => by omega, fun h => by omega⟩ (below_alloc hb _) (fun b r c u h => h.alloc _)
      rw [put_same (by omega)]
      exact IZ.empty hb.size _
    | 1, _ =>
      obtain ⟨op, p1, p2, p3, p4, p5⟩ := hC.o6
      obtain ⟨v', w', q1, q2, q3⟩ := (i1 rfl).app Xk nil2 (by omega) hb.size
      rw [Nat.zero_add, cat_zero] at q2
      refine ⟨op, 62, h1 ▸ p1, by decide, fun K' hK => ?_⟩
      refine step_append_run p2 _ _ 22 22 p5 _ _ rfl ((o.eval (by decide)).trans hC.e61) _ _ (by rw [p4]; exact q1) ?_
      rw [p3]
      refine hK _ _ ⟨o.put (by decide) _, fun h => by omega, fun _ => ?_, fun h => by omega, fun h => by omega⟩ (hb.grown q3 hb.size (fun k hk => ((i1 rfl).lt k hk).1)) (Bx.apart q3 (fun b r c u h => (i1 rfl).neo h))
      rw [put_same (by omega)]
      exact q2
    | 2, _ =>
      obtain ⟨op, p1, p2, p3, p4, p5⟩ := hC.o8
      obtain ⟨v', w', q1, q2, q3⟩ := (i2 rfl).app Xl nil1 hn hb.size
      refine ⟨op, 64, h2 ▸ p1, by decide, fun K' hK => ?_⟩
      refine step_append_run p2 _ _ 22 22 p5 _ _ rfl ((o.eval (by decide)).trans hC.e63) _ _ (by rw [p4]; exact q1) ?_
      rw [p3]
      refine hK _ _ ⟨o.put (by decide) _, fun h => by omega, fun h => by omega, fun _ => ?_, fun h => by omega⟩ (hb.grown q3 hb.size (fun k hk => ((i2 rfl).lt k hk).1)) (Bx.apart q3 (fun b r c u h => (i2 rfl).neo h))
      rw [put_same (by omega)]
      exact q2
    | 3, _ =>
      obtain ⟨op, p1, p2, p3, p4⟩ := hC.o9
      refine ⟨op, 65, h3 ▸ p1, by decide, fun K' hK => ?_⟩
      have hv : #[Operand.tmp 57, .tmp 59, .tmp 64].map a.eval = #[.int .i64 z, .int .i64 x, a.eval (.tmp 64)] := by
        simp only [List.map_toArray, List.map_cons, List.map_nil]
        rw [(o.eval (by decide)).trans hC.e57, (o.eval (by decide)).trans hC.e59]
      refine step_call p2 p4 hv (hC.fn _ _) ?_
      refine (made_il z x (((i3 rfl).nx (f := f) hf).up (Below.refl _ _)) (by omega)).mono ?_
      rintro e w' ⟨v, rfl, hI, hb'⟩
      refine ⟨_, rfl, ?_⟩
      rw [p3]
      refine hK _ _ ⟨o.put (by decide) _, fun h => by omega, fun h => by omega, fun h => by omega, fun _ => ?_⟩ (below_step hb hb') (fun b r c u h => h.below hb' (Nat.le_refl _))
      rw [put_same (by omega)]
      exact il_gx hI (Nat.lt_of_lt_of_le hf hb.size)
  · rintro a w ⟨_, _, _, _, i4⟩
    exact ST.shp _ _ (i4 rfl)
  · rintro a w w' b ao m cap ⟨o, _, _, _, i4⟩ eX eR hB hB' hg _ hbel
    have g := i4 rfl
    rw [eR] at g
    obtain ⟨ao', cap', e', _⟩ := id g
    simp only [Value.agg.injEq, List.cons.injEq, Array.mk.injEq, Value.slice.injEq, and_true, true_and] at e'
    obtain ⟨rfl, rfl, rfl⟩ := e'
    have g' := ST.put _ _ _ _ _ _ _ g hB hg
    have := hend w' b ao cap (a.eval (.tmp 60)) (a.eval (.tmp 62)) (a.eval (.tmp 64)) g' hB' hbel
    rw [o.eq]
    simp only [List.foldl_cons, List.foldl_nil]
    rw [eX, eR]
    exact this
end Go.Proofs.Ythedeggggbdibaa

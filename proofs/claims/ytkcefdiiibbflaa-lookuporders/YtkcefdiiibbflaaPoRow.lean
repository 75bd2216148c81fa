/-
  Port: lists of structs in memory: of one's own, and to be read.
-/
import Derived.Test.YtkcefdiiibbflaaStKit
namespace Go.Proofs.Ytkcefdiiibbflaa
open Go.RowKit Go.Lib

section
variable {α : Type} {f : α → List Value} {k : Nat}
theorem flat_len (hk : ∀ x, (f x).length = k) : ∀ l : List α, (l.flatMap f).length = l.length * k
  | [] => by simp
  | x :: r => by rw [List.flatMap_cons, List.length_append, hk, flat_len hk r, List.length_cons, Nat.add_mul, Nat.one_mul, Nat.add_comm]
theorem flat_get (hk : ∀ x, (f x).length = k) : ∀ (l : List α) (i j : Nat), j < k → (l.flatMap f)[i * k + j]? = l[i]?.bind fun x => (f x)[j]?
  | [], i, j, _ => by simp
  | x :: r, 0, j, hj => by
    rw [List.flatMap_cons, List.getElem?_append_left (by rw [hk]; omega)]
    simp
  | x :: r, i + 1, j, hj => by
    rw [List.flatMap_cons, List.getElem?_append_right (by rw [hk, Nat.add_mul, Nat.one_mul]; omega), hk, show (i + 1) * k + j - k = i * k + j from by rw [Nat.add_mul, Nat.one_mul]; omega, flat_get hk r i j hj]
    rfl
/-- Structs of k cells lie one behind the other. -/
def GS (f : α → List Value) (k : Nat) (w : World) (g o : Nat) (l : List α) : Prop := ∀ i x, l[i]? = some x → ∀ j u, (f x)[j]? = some u → w.cell? ⟨g, o + i * k + j, none⟩ = some u
/-- A list of structs in a block of one's own. -/
structure OW (f : α → List Value) (k : Nat) (T : TypeId) (B : Nat) (v : Value) (l : List α) (w : World) : Prop where
  own : w.ownsRow B T k v l.length (l.flatMap f)
/-- A list of structs that is read, in a block of r. -/
def LS (f : α → List Value) (k : Nat) (r : Nat → Prop) (w : World) (v : Value) (l : List α) : Prop :=
  ∃ a c, v = .slice a l.length c ∧ (a = none → c = 0) ∧ (l = [] ∨ ∃ g o, a = some ⟨g, o, none⟩ ∧ r g ∧ g < w.heap.size ∧ GS f k w g o l)
variable {T : TypeId} {B g o : Nat} {v : Value} {l m : List α} {w w' : World} {r r' p : Nat → Prop}
theorem GS.block (h : GS f k w g o l) (hb : w'.heap[g]? = w.heap[g]?) : GS f k w' g o l := fun i x hx j u hu => by
  have := h i x hx j u hu
  simp only [World.cell?, hb] at this ⊢
  exact this
theorem GS.cells (hk : ∀ x, (f x).length = k) (h0 : 0 < k) (h : GS f k w g o l) : ∀ j u, (l.flatMap f)[j]? = some u → w.cell? ((⟨g, o, none⟩ : Addr).add j) = some u := fun j u hu => by
  have e : j = j / k * k + j % k := by rw [Nat.mul_comm]; exact (Nat.div_add_mod j k).symm
  rw [e, flat_get hk _ _ _ (Nat.mod_lt _ h0)] at hu
  obtain ⟨x, hx, hu⟩ := Option.bind_eq_some_iff.1 hu
  have := h _ x hx _ u hu
  rw [Addr.add_mid, e, ← Nat.add_assoc]
  exact this
theorem OW.nil (f : α → List Value) (k : Nat) (T : TypeId) (B : Nat) (w : World) : OW f k T B (.slice none 0 0) [] w := ⟨World.ownsRow_nil w B T k⟩
theorem OW.empty (f : α → List Value) (k : Nat) (T : TypeId) (hB : B ≤ w.heap.size) : OW f k T B (.slice (some ⟨w.heap.size, 0, none⟩) 0 0) [] (w.alloc (.cells #[] T)) :=
  ⟨by simp, .inr ⟨_, 0, #[], rfl, hB, heap_alloc_new w _, Nat.le_refl _, by unfold maxLen; omega, by simp, by simp⟩⟩
theorem OW.shp (h : OW f k T B v l w) : ∃ a c, v = .slice a l.length c := by
  obtain ⟨h1, ⟨rfl, h2⟩ | ⟨g, cap, cur, rfl, _⟩⟩ := h.own
  · rw [h2]; exact ⟨_, _, rfl⟩
  · exact ⟨_, _, rfl⟩
theorem OW.kb (h : OW f k T B v l w) (hk : ∀ i, v.ownBlock = some i → w'.heap[i]? = w.heap[i]?) : OW f k T B v l w' := by
  refine ⟨h.own.1, ?_⟩
  rcases h.own.2 with h2 | ⟨g, cap, cur, e, hB, hg, r⟩
  · exact .inl h2
  · exact .inr ⟨g, cap, cur, e, hB, (hk g (by rw [e]; rfl)).trans hg, r⟩
theorem OW.lt (h : OW f k T B v l w) (b : Nat) (hb : v.ownBlock = some b) : B ≤ b ∧ b < w.heap.size := by
  obtain ⟨h1, ⟨rfl, h2⟩ | ⟨g, cap, cur, rfl, hB, hg, _⟩⟩ := h.own
  · simp [Value.ownBlock] at hb
  · simp only [Value.ownBlock, Option.some.injEq] at hb
    subst hb
    exact ⟨hB, lt_of_block hg⟩
theorem OW.typ (h : OW f k T B v l w) (b : Nat) (hb : v.ownBlock = some b) : ∃ cs, w.heap[b]? = some (.cells cs T (0, 0)) := by
  obtain ⟨h1, ⟨rfl, h2⟩ | ⟨g, cap, cur, rfl, hB, hg, _⟩⟩ := h.own
  · simp [Value.ownBlock] at hb
  · simp only [Value.ownBlock, Option.some.injEq] at hb
    subst hb
    exact ⟨_, hg⟩
theorem OW.keep (h : OW f k T B v l w) (hb : Below w.heap.size w w') : OW f k T B v l w' := h.kb fun i hi => hb.block i (h.lt i hi).2
theorem OW.low {B' : Nat} (h : OW f k T B v l w) (hB : B' ≤ B) : OW f k T B' v l w := by
  refine ⟨h.own.1, ?_⟩
  rcases h.own.2 with h2 | ⟨g, cap, cur, e, hg, r⟩
  · exact .inl h2
  · exact .inr ⟨g, cap, cur, e, Nat.le_trans hB hg, r⟩
theorem OW.ls (hk : ∀ x, (f x).length = k) (h : OW f k T B v l w) (hr : ∀ i, v.ownBlock = some i → r i) : LS f k r w v l := by
  obtain ⟨h1, ⟨rfl, h2⟩ | ⟨g, cap, cur, rfl, hB, hg, hn, _, hs, ht⟩⟩ := h.own
  · rw [List.length_eq_zero_iff.1 h2]
    exact ⟨none, 0, rfl, fun _ => rfl, .inl rfl⟩
  · refine ⟨_, _, rfl, (fun e => by cases e), .inr ⟨g, 0, rfl, hr g rfl, lt_of_block hg, fun i x hx j u hu => ?_⟩⟩
    have hj : j < k := by rw [← hk x]; exact (List.getElem?_eq_some_iff.1 hu).1
    have hl : i < l.length := (List.getElem?_eq_some_iff.1 hx).1
    have e0 : (l.flatMap f)[i * k + j]? = some u := by rw [flat_get hk l i j hj, hx]; exact hu
    have hlt : i * k + j < l.length * k := by
      have := Nat.mul_le_mul_right k (show i + 1 ≤ l.length from hl)
      rw [Nat.add_mul, Nat.one_mul] at this
      omega
    rw [← ht, List.getElem?_take, if_pos hlt] at e0
    rw [Nat.zero_add, cell_of_row w g _ _ _ _ hg]
    simpa using e0
theorem LS.shp (h : LS f k r w v l) : ∃ a c, v = .slice a l.length c := by obtain ⟨a, c, e, _⟩ := h; exact ⟨a, c, e⟩
theorem LS.kb (h : LS f k r w v l) (hs : w.heap.size ≤ w'.heap.size) (hb : ∀ i, r i → i < w.heap.size → w'.heap[i]? = w.heap[i]?) : LS f k r w' v l := by
  obtain ⟨a, c, e, h1, h2 | ⟨g, o, ea, hr, hg, hG⟩⟩ := h
  · exact ⟨a, c, e, h1, .inl h2⟩
  · exact ⟨a, c, e, h1, .inr ⟨g, o, ea, hr, Nat.lt_of_lt_of_le hg hs, hG.block (hb g hr hg)⟩⟩
theorem LS.bel (h : LS f k r w v l) (hb : Below w.heap.size w w') : LS f k r w' v l := h.kb hb.size fun i _ hi => hb.block i hi
theorem LS.gs (h : LS f k r w v l) (hg : Gs p w w') (hp : ∀ i, r i → ¬ p i) : LS f k r w' v l := h.kb hg.size fun i hr hi => hg.block i hi (hp i hr)
theorem LS.mono (h : LS f k r w v l) (hr : ∀ i, r i → r' i) : LS f k r' w v l := by
  obtain ⟨a, c, e, h1, h2 | ⟨g, o, ea, h3, h4⟩⟩ := h
  · exact ⟨a, c, e, h1, .inl h2⟩
  · exact ⟨a, c, e, h1, .inr ⟨g, o, ea, hr g h3, h4⟩⟩
theorem LS.old (h : LS f k r w v l) : LS f k (fun i => r i ∧ i < w.heap.size) w v l := by
  obtain ⟨a, c, e, h1, h2 | ⟨g, o, ea, h3, h4, h5⟩⟩ := h
  · exact ⟨a, c, e, h1, .inl h2⟩
  · exact ⟨a, c, e, h1, .inr ⟨g, o, ea, ⟨h3, h4⟩, h4, h5⟩⟩
/-- A list appended whole. -/
theorem OW.app {ST : TypeId} {z : Value} {by_ : Nat} (hk : ∀ x, (f x).length = k) (h0 : 0 < k) (h1 : ∀ x ∈ m, ∀ u ∈ f x, u.oneCell' = true) (hu : Try.prog.underlying ST = some (.slice T)) (hinf : (Try.prog.info? T).map (fun i => (i.zero, i.size, i.bytes)) = some (some z, k, by_)) (hz : z.cells.size = k)
    (h : OW f k T B v l w) {vs : Value} (hS : LS f k r w vs m) (hb : (l.length + m.length) * by_ ≤ 140737488355328) (hm : l.length + m.length ≤ 9223372036854775807) (hB : B ≤ w.heap.size) :
    ∃ v' w', (Builtin.append_ #[ST, ST] ST #[v, vs]).run Try.prog w = .ok v' w' ∧ OW f k T B v' (l ++ m) w' ∧ w.grownBy w' v.ownBlock ∧ (v'.ownBlock = v.ownBlock ∨ v'.ownBlock = some w.heap.size) := by
  obtain ⟨i0, hi, hz0, hz1, hz2⟩ := info_parts hinf
  obtain ⟨a, c, rfl, hc, hC⟩ := hS
  rcases a with _ | a
  · have hc := hc rfl
    subst hc
    have hm0 : m = [] := by
      rcases hC with h | ⟨_, _, h, _⟩
      · exact h
      · cases h
    subst hm0
    exact ⟨v, w, run_append_owned_none (P := Try.prog) (w := w) B _ _ _ i0 k hu hi v l.length (l.flatMap f) h.own, by rw [List.append_nil]; exact h, World.grownBy.refl _ _, .inl rfl⟩
  · obtain ⟨v', w', h1, h2, h3, _, h5⟩ := run_append_own_at (P := Try.prog) w B ST ST T i0 z k by_ hu hi hz0 hz1 hz2 hz h0 v l.length (l.flatMap f) h.own a m.length c (m.flatMap f) (flat_len hk m) (fun j u hj => by
      rcases hC with rfl | ⟨g, o, ea, _, _, hG⟩
      · simp at hj
      · cases ea
        exact hG.cells hk h0 j u hj) (fun u hu => by obtain ⟨x, hm, hx⟩ := List.mem_flatMap.1 hu; exact h1 x hm u hx) (by unfold maxLen; omega) hb hB
    exact ⟨v', w', h1, ⟨by rw [List.length_append, List.flatMap_append]; exact h2⟩, h3, h5⟩
/-- One struct, laid in a block of its own, is a list. -/
theorem LS.one (x : α) (T : TypeId) (w : World) (f : α → List Value) (k : Nat) (r : Nat → Prop) (hr : r w.heap.size) : LS f k r (w.alloc (.cells (f x).toArray T)) (.slice (some ⟨w.heap.size, 0, none⟩) 1 1) [x] := by
  refine ⟨_, _, rfl, (fun e => by cases e), .inr ⟨_, 0, rfl, hr, by simp, fun i y hy j u hu => ?_⟩⟩
  have hi : i = 0 := by
    have := (List.getElem?_eq_some_iff.1 hy).1
    simp at this
    exact this
  subst hi
  simp at hy
  subst hy
  rw [Nat.zero_mul, Nat.zero_add, cell_of_row _ _ _ _ _ _ (heap_alloc_new w _)]
  simpa using hu
end
end Go.Proofs.Ytkcefdiiibbflaa

/-
  Contracts of the program and of the statements (part 2 of 12).
-/
import Derived.Test.YtcidfkkgpehodaaDoorPn1
import Derived.Deep.RegionHeldLaw
import Derived.Laws.IdiomStrings
import Derived.Laws.BytesArg
import Derived.Lib.AppendStr

namespace Go.Proofs.YtcidfkkgpehodaaDoor
open Go.RowKit Go.Lib

section
variable {α : Type} {f : α → List Value} {k : Nat}
theorem flat_len (hk : ∀ x, (f x).length = k) : ∀ l : List α, (l.flatMap f).length = l.length * k
  | [] => by simp
  | x :: r => by rw [List.flatMap_cons, List.length_append, hk, flat_len hk r, List.length_cons, Nat.add_mul, Nat.one_mul, Nat.add_comm]
theorem flat_get (hk : ∀ x, (f x).length = k) : ∀ (l : List α) (i j : Nat), j < k → (l.flatMap f)[i * k + j]? = l[i]?.bind fun x => (f x)[j]?
  | [], i, j, _ => by simp
  | x :: r, 0, j, hj => by
    rw [List.flatMap_cons, List.getElem?_append_left (by rw [hk]; omega)]
    simp
  | x :: r, i + 1, j, hj => by
    rw [List.flatMap_cons, List.getElem?_append_right (by rw [hk, Nat.add_mul, Nat.one_mul]; omega), hk, show (i + 1) * k + j - k = i * k + j from by rw [Nat.add_mul, Nat.one_mul]; omega, flat_get hk r i j hj]
    rfl
/-- Structs of k cells lie one behind the other. -/
def GS (f : α → List Value) (k : Nat) (w : World) (g o : Nat) (l : List α) : Prop := ∀ i x, l[i]? = some x → ∀ j u, (f x)[j]? = some u → w.cell? ⟨g, o + i * k + j, none⟩ = some u
/-- A list of structs in a block of one's own. -/
structure OW (f : α → List Value) (k : Nat) (T : TypeId) (B : Nat) (v : Value) (l : List α) (w : World) : Prop where
  own : w.ownsRow B T k v l.length (l.flatMap f)
/-- A list of structs that is read, in a block of r. -/
def LS (f : α → List Value) (k : Nat) (r : Nat → Prop) (w : World) (v : Value) (l : List α) : Prop :=
  ∃ a c, v = .slice a l.length c ∧ (a = none → c = 0) ∧ (l = [] ∨ ∃ g o, a = some ⟨g, o, none⟩ ∧ r g ∧ g < w.heap.size ∧ GS f k w g o l)
variable {T : TypeId} {B g o : Nat} {v : Value} {l m : List α} {w w' : World} {r r' p : Nat → Prop}
theorem GS.block (h : GS f k w g o l) (hb : w'.heap[g]? = w.heap[g]?) : GS f k w' g o l := fun i x hx j u hu => by
  have := h i x hx j u hu
  simp only [World.cell?, hb] at this ⊢
  exact this
theorem GS.cells (hk : ∀ x, (f x).length = k) (h0 : 0 < k) (h : GS f k w g o l) : ∀ j u, (l.flatMap f)[j]? = some u → w.cell? ((⟨g, o, none⟩ : Addr).add j) = some u := fun j u hu => by
  have e : j = j / k * k + j % k := by rw [Nat.mul_comm]; exact (Nat.div_add_mod j k).symm
  rw [e, flat_get hk _ _ _ (Nat.mod_lt _ h0)] at hu
  obtain ⟨x, hx, hu⟩ := Option.bind_eq_some_iff.1 hu
  have := h _ x hx _ u hu
  rw [Addr.add_mid, e, ← Nat.add_assoc]
  exact this
theorem OW.nil (f : α → List Value) (k : Nat) (T : TypeId) (B : Nat) (w : World) : OW f k T B (.slice none 0 0) [] w := ⟨World.ownsRow_nil w B T k⟩
theorem OW.empty (f : α → List Value) (k : Nat) (T : TypeId) (hB : B ≤ w.heap.size) : OW f k T B (.slice (some ⟨w.heap.size, 0, none⟩) 0 0) [] (w.alloc (.cells #[] T)) :=
  ⟨by simp, .inr ⟨_, 0, #[], rfl, hB, heap_alloc_new w _, Nat.le_refl _, by unfold maxLen; omega, by simp, by simp⟩⟩
theorem OW.shp (h : OW f k T B v l w) : ∃ a c, v = .slice a l.length c := by
  obtain ⟨h1, ⟨rfl, h2⟩ | ⟨g, cap, cur, rfl, _⟩⟩ := h.own
  · rw [h2]; exact ⟨_, _, rfl⟩
  · exact ⟨_, _, rfl⟩
theorem OW.kb (h : OW f k T B v l w) (hk : ∀ i, v.ownBlock = some i → w'.heap[i]? = w.heap[i]?) : OW f k T B v l w' := by
  refine ⟨h.own.1, ?_⟩
  rcases h.own.2 with h2 | ⟨g, cap, cur, e, hB, hg, r⟩
  · exact .inl h2
  · exact .inr ⟨g, cap, cur, e, hB, (hk g (by rw [e]; rfl)).trans hg, r⟩
theorem OW.lt (h : OW f k T B v l w) (b : Nat) (hb : v.ownBlock = some b) : B ≤ b ∧ b < w.heap.size := by
  obtain ⟨h1, ⟨rfl, h2⟩ | ⟨g, cap, cur, rfl, hB, hg, _⟩⟩ := h.own
  · simp [Value.ownBlock] at hb
  · simp only [Value.ownBlock, Option.some.injEq] at hb
    subst hb
    exact ⟨hB, lt_of_block hg⟩
theorem OW.typ (h : OW f k T B v l w) (b : Nat) (hb : v.ownBlock = some b) : ∃ cs, w.heap[b]? = some (.cells cs T (0, 0)) := by
  obtain ⟨h1, ⟨rfl, h2⟩ | ⟨g, cap, cur, rfl, hB, hg, _⟩⟩ := h.own
  · simp [Value.ownBlock] at hb
  · simp only [Value.ownBlock, Option.some.injEq] at hb
    subst hb
    exact ⟨_, hg⟩
theorem OW.keep (h : OW f k T B v l w) (hb : Below w.heap.size w w') : OW f k T B v l w' := h.kb fun i hi => hb.block i (h.lt i hi).2
theorem OW.low {B' : Nat} (h : OW f k T B v l w) (hB : B' ≤ B) : OW f k T B' v l w := by
  refine ⟨h.own.1, ?_⟩
  rcases h.own.2 with h2 | ⟨g, cap, cur, e, hg, r⟩
  · exact .inl h2
  · exact .inr ⟨g, cap, cur, e, Nat.le_trans hB hg, r⟩
theorem OW.ls (hk : ∀ x, (f x).length = k) (h : OW f k T B v l w) (hr : ∀ i, v.ownBlock = some i → r i) : LS f k r w v l := by
  obtain ⟨h1, ⟨rfl, h2⟩ | ⟨g, cap, cur, rfl, hB, hg, hn, _, hs, ht⟩⟩ := h.own
  · rw [List.length_eq_zero_iff.1 h2]
    exact ⟨none, 0, rfl, fun _ => rfl, .inl rfl⟩
  · refine ⟨_, _, rfl, (fun e => by cases e), .inr ⟨g, 0, rfl, hr g rfl, lt_of_block hg, fun i x hx j u hu => ?_⟩⟩
    have hj : j < k := by rw [← hk x]; exact (List.getElem?_eq_some_iff.1 hu).1
    have hl : i < l.length := (List.getElem?_eq_some_iff.1 hx).1
    have e0 : (l.flatMap f)[i * k + j]? = some u := by rw [flat_get hk l i j hj, hx]; exact hu
    have hlt : i * k + j < l.length * k := by
      have := Nat.mul_le_mul_right k (show i + 1 ≤ l.length from hl)
      rw [Nat.add_mul, Nat.one_mul] at this
      omega
    rw [← ht, List.getElem?_take, if_pos hlt] at e0
    rw [Nat.zero_add, cell_of_row w g _ _ _ _ hg]
    simpa using e0
theorem LS.shp (h : LS f k r w v l) : ∃ a c, v = .slice a l.length c := by obtain ⟨a, c, e, _⟩ := h; exact ⟨a, c, e⟩
theorem LS.kb (h : LS f k r w v l) (hs : w.heap.size ≤ w'.heap.size) (hb : ∀ i, r i → i < w.heap.size → w'.heap[i]? = w.heap[i]?) : LS f k r w' v l := by
  obtain ⟨a, c, e, h1, h2 | ⟨g, o, ea, hr, hg, hG⟩⟩ := h
  · exact ⟨a, c, e, h1, .inl h2⟩
  · exact ⟨a, c, e, h1, .inr ⟨g, o, ea, hr, Nat.lt_of_lt_of_le hg hs, hG.block (hb g hr hg)⟩⟩
theorem LS.bel (h : LS f k r w v l) (hb : Below w.heap.size w w') : LS f k r w' v l := h.kb hb.size fun i _ hi => hb.block i hi
theorem LS.gs (h : LS f k r w v l) (hg : Gs p w w') (hp : ∀ i, r i → ¬ p i) : LS f k r w' v l := h.kb hg.size fun i hr hi => hg.block i hi (hp i hr)
theorem LS.mono (h : LS f k r w v l) (hr : ∀ i, r i → r' i) : LS f k r' w v l := by
  obtain ⟨a, c, e, h1, h2 | ⟨g, o, ea, h3, h4⟩⟩ := h
  · exact ⟨a, c, e, h1, .inl h2⟩
  · exact ⟨a, c, e, h1, .inr ⟨g, o, ea, hr g h3, h4⟩⟩
theorem LS.old (h : LS f k r w v l) : LS f k (fun i => r i ∧ i < w.heap.size) w v l := by
  obtain ⟨a, c, e, h1, h2 | ⟨g, o, ea, h3, h4, h5⟩⟩ := h
  · exact ⟨a, c, e, h1, .inl h2⟩
  · exact ⟨a, c, e, h1, .inr ⟨g, o, ea, ⟨h3, h4⟩, h4, h5⟩⟩
/-- A list appended whole. -/
theorem OW.app {ST : TypeId} {z : Value} {by_ : Nat} (hk : ∀ x, (f x).length = k) (h0 : 0 < k) (h1 : ∀ x ∈ m, ∀ u ∈ f x, u.oneCell' = true) (hu : Tryd.prog.underlying ST = some (.slice T)) (hinf : (Tryd.prog.info? T).map (fun i => (i.zero, i.size, i.bytes)) = some (some z, k, by_)) (hz : z.cells.size = k)
    (h : OW f k T B v l w) {vs : Value} (hS : LS f k r w vs m) (hb : (l.length + m.length) * by_ ≤ 140737488355328) (hm : l.length + m.length ≤ 9223372036854775807) (hB : B ≤ w.heap.size) :
    ∃ v' w', (Builtin.append_ #[ST, ST] ST #[v, vs]).run Tryd.prog w = .ok v' w' ∧ OW f k T B v' (l ++ m) w' ∧ w.grownBy w' v.ownBlock ∧ (v'.ownBlock = v.ownBlock ∨ v'.ownBlock = some w.heap.size) := by
  obtain ⟨i0, hi, hz0, hz1, hz2⟩ := info_parts hinf
  obtain ⟨a, c, rfl, hc, hC⟩ := hS
  rcases a with _ | a
  · have hc := hc rfl
    subst hc
    have hm0 : m = [] := by
      rcases hC with h | ⟨_, _, h, _⟩
      · exact h
      · cases h
    subst hm0
    exact ⟨v, w, run_append_owned_none (P := Tryd.prog) (w := w) B _ _ _ i0 k hu hi v l.length (l.flatMap f) h.own, by rw [List.append_nil]; exact h, World.grownBy.refl _ _, .inl rfl⟩
  · obtain ⟨v', w', h1, h2, h3, _, h5⟩ := run_append_own_at (P := Tryd.prog) w B ST ST T i0 z k by_ hu hi hz0 hz1 hz2 hz h0 v l.length (l.flatMap f) h.own a m.length c (m.flatMap f) (flat_len hk m) (fun j u hj => by
      rcases hC with rfl | ⟨g, o, ea, _, _, hG⟩
      · simp at hj
      · cases ea
        exact hG.cells hk h0 j u hj) (fun u hu => by obtain ⟨x, hm, hx⟩ := List.mem_flatMap.1 hu; exact h1 x hm u hx) (by unfold maxLen; omega) hb hB
    exact ⟨v', w', h1, ⟨by rw [List.length_append, List.flatMap_append]; exact h2⟩, h3, h5⟩
/-- One struct, laid in a block of its own, is a list. -/
theorem LS.one (x : α) (T : TypeId) (w : World) (f : α → List Value) (k : Nat) (r : Nat → Prop) (hr : r w.heap.size) : LS f k r (w.alloc (.cells (f x).toArray T)) (.slice (some ⟨w.heap.size, 0, none⟩) 1 1) [x] := by
  refine ⟨_, _, rfl, (fun e => by cases e), .inr ⟨_, 0, rfl, hr, by simp, fun i y hy j u hu => ?_⟩⟩
  have hi : i = 0 := by
    have := (List.getElem?_eq_some_iff.1 hy).1
    simp at this
    exact this
  subst hi
  simp at hy
  subst hy
  rw [Nat.zero_mul, Nat.zero_add, cell_of_row _ _ _ _ _ _ (heap_alloc_new w _)]
  simpa using hu
end
end Go.Proofs.YtcidfkkgpehodaaDoor

namespace Go.Proofs.YtcidfkkgpehodaaDoor

/-- A sequence: literals, and what is repeated behind them. -/
structure SQ where
  lit : ByteArray
  dist : Nat
  long : Nat
  deriving DecidableEq
/-- The byte at a place. -/
def bt (s : ByteArray) (i : Nat) : Nat := if h : i < s.size then (s[i]'h).toNat else 0
theorem bt_at {s : ByteArray} {i : Nat} (h : i < s.size) : bt s i = (s[i]'h).toNat := dif_pos h
theorem bt_lt (s : ByteArray) (i : Nat) : bt s i < 256 := by
  rw [bt]
  split
  · exact UInt8.toNat_lt _
  · decide
/-- A number that goes on. -/
def moG (s : ByteArray) : Nat → Nat → Nat → Option (Nat × Nat)
  | 0, _, _ => none
  | f + 1, i, n => if i < s.size then (if bt s i < 255 then some (n + bt s i, i + 1) else moG s f (i + 1) (n + bt s i)) else none
def mo (s : ByteArray) (i n : Nat) : Option (Nat × Nat) := if n < 15 then some (n, i) else moG s (s.size - i) i n
section
variable {s : ByteArray}
theorem moG_end {i n : Nat} (h : s.size ≤ i) : moG s (s.size - i) i n = none := by
  rw [show s.size - i = 0 by omega]
  rfl
theorem moG_one {i n : Nat} (h : i < s.size) (hb : bt s i < 255) : moG s (s.size - i) i n = some (n + bt s i, i + 1) := by
  rw [show s.size - i = (s.size - (i + 1)) + 1 by omega, moG, if_pos h, if_pos hb]
theorem moG_more {i n : Nat} (h : i < s.size) (hb : ¬ bt s i < 255) : moG s (s.size - i) i n = moG s (s.size - (i + 1)) (i + 1) (n + bt s i) := by
  rw [show s.size - i = (s.size - (i + 1)) + 1 by omega, moG, if_pos h, if_neg hb]
theorem moG_spec : ∀ (f i n : Nat) {m j : Nat}, moG s f i n = some (m, j) → i < j ∧ j ≤ s.size ∧ n ≤ m ∧ m ≤ n + 255 * (j - i)
  | 0, _, _, _, _, h => by cases h
  | f + 1, i, n, m, j, h => by
    rw [moG] at h
    have hb := bt_lt s i
    split at h
    · split at h
      · simp only [Option.some.injEq, Prod.mk.injEq] at h
        omega
      · have := moG_spec f _ _ h
        omega
    · cases h
theorem mo_spec {i n m j : Nat} (hi : i ≤ s.size) (h : mo s i n = some (m, j)) : i ≤ j ∧ j ≤ s.size ∧ n ≤ m ∧ m ≤ n + 255 * (j - i) := by
  rw [mo] at h
  split at h
  · simp only [Option.some.injEq, Prod.mk.injEq] at h
    omega
  · have := moG_spec _ _ _ h
    omega
theorem mo_few {i n : Nat} (h : n < 15) : mo s i n = some (n, i) := by rw [mo, if_pos h]
theorem mo_on {i n : Nat} (h : ¬ n < 15) : mo s i n = moG s (s.size - i) i n := by rw [mo, if_neg h]
end
/-- The distance that two bytes tell. -/
def ds (s : ByteArray) (i : Nat) : Nat := bt s i + bt s (i + 1) * 256
/-- The sequences from a place on, n bytes having been unpacked; how many bytes there are in all. -/
def psG (s : ByteArray) : Nat → Nat → Nat → Option (List SQ × Nat)
  | 0, _, _ => none
  | f + 1, i, n =>
    if i < s.size then
      match mo s (i + 1) (bt s i / 16) with
      | none => none
      | some (a, j) =>
        if s.size - j < a then none
        else if j + a = s.size then (if bt s i % 16 = 0 then some ([⟨s.extract j (j + a), 0, 0⟩], n + a) else none)
        else if s.size < j + a + 2 then none
        else match mo s (j + a + 2) (bt s i % 16) with
          | none => none
          | some (b, k) =>
            if ds s (j + a) = 0 ∨ n + a < ds s (j + a) then none
            else (psG s f k (n + a + (b + 4))).map fun r => (⟨s.extract j (j + a), ds s (j + a), b + 4⟩ :: r.1, r.2)
    else none
def pq (s : ByteArray) (i n : Nat) : Option (List SQ × Nat) := psG s (s.size - i) i n
def ps (s : ByteArray) : Option (List SQ × Nat) := pq s 0 0
section
variable {s : ByteArray}
theorem psG_enough : ∀ (f f' i n : Nat), s.size - i ≤ f → s.size - i ≤ f' → psG s f i n = psG s f' i n
  | 0, 0, _, _, _, _ => rfl
  | 0, f' + 1, i, n, h, _ => by rw [psG, psG, if_neg (by omega)]
  | f + 1, 0, i, n, _, h => by rw [psG, psG, if_neg (by omega)]
  | f + 1, f' + 1, i, n, h1, h2 => by
    rw [psG, psG]
    by_cases hi : i < s.size
    · rw [if_pos hi, if_pos hi]
      cases hm : mo s (i + 1) (bt s i / 16) with
      | none => rfl
      | some r =>
        obtain ⟨a, j⟩ := r
        have := mo_spec (by omega) hm
        by_cases c1 : s.size - j < a
        · simp only [if_pos c1]
        · by_cases c2 : j + a = s.size
          · simp only [if_neg c1, if_pos c2]
          · by_cases c3 : s.size < j + a + 2
            · simp only [if_neg c1, if_neg c2, if_pos c3]
            · simp only [if_neg c1, if_neg c2, if_neg c3]
              cases hk : mo s (j + a + 2) (bt s i % 16) with
              | none => rfl
              | some r =>
                obtain ⟨b, k⟩ := r
                have := mo_spec (by omega) hk
                by_cases c4 : ds s (j + a) = 0 ∨ n + a < ds s (j + a)
                · simp only [if_pos c4]
                · simp only [if_neg c4]
                  rw [psG_enough f f' k _ (by omega) (by omega)]
    · rw [if_neg hi, if_neg hi]
theorem pq_end {i n : Nat} (h : s.size ≤ i) : pq s i n = none := by rw [pq, show s.size - i = 0 by omega]; rfl
theorem pq_one {i n : Nat} (h : i < s.size) : pq s i n =
      match mo s (i + 1) (bt s i / 16) with
      | none => none
      | some (a, j) =>
        if s.size - j < a then none
        else if j + a = s.size then (if bt s i % 16 = 0 then some ([⟨s.extract j (j + a), 0, 0⟩], n + a) else none)
        else if s.size < j + a + 2 then none
        else match mo s (j + a + 2) (bt s i % 16) with
          | none => none
          | some (b, k) =>
            if ds s (j + a) = 0 ∨ n + a < ds s (j + a) then none
            else (pq s k (n + a + (b + 4))).map fun r => (⟨s.extract j (j + a), ds s (j + a), b + 4⟩ :: r.1, r.2) := by
  rw [pq, show s.size - i = (s.size - (i + 1)) + 1 by omega, psG, if_pos h]
  cases hm : mo s (i + 1) (bt s i / 16) with
  | none => rfl
  | some r =>
    obtain ⟨a, j⟩ := r
    have h1 := mo_spec (by omega) hm
    by_cases c1 : s.size - j < a
    · simp only [if_pos c1]
    · by_cases c2 : j + a = s.size
      · simp only [if_neg c1, if_pos c2]
      · by_cases c3 : s.size < j + a + 2
        · simp only [if_neg c1, if_neg c2, if_pos c3]
        · simp only [if_neg c1, if_neg c2, if_neg c3]
          cases hk : mo s (j + a + 2) (bt s i % 16) with
          | none => rfl
          | some r =>
            obtain ⟨b, k⟩ := r
            have h2 := mo_spec (by omega) hk
            simp only
            rw [psG_enough (s.size - (i + 1)) (s.size - k) k _ (by omega) (Nat.le_refl _), pq]
variable {i n a j b k : Nat}
theorem pq_bad (h : i < s.size) (h1 : mo s (i + 1) (bt s i / 16) = none) : pq s i n = none := by rw [pq_one h, h1]
theorem pq_cut (h : i < s.size) (h1 : mo s (i + 1) (bt s i / 16) = some (a, j)) (h2 : s.size - j < a) : pq s i n = none := by
  rw [pq_one h, h1]
  exact if_pos h2
theorem pq_last (h : i < s.size) (h1 : mo s (i + 1) (bt s i / 16) = some (a, j)) (h2 : ¬ s.size - j < a) (h3 : j + a = s.size) : pq s i n = if bt s i % 16 = 0 then some ([⟨s.extract j (j + a), 0, 0⟩], n + a) else none := by
  rw [pq_one h, h1]
  show (if _ then _ else if _ then _ else _) = _
  rw [if_neg h2, if_pos h3]
theorem pq_two (h : i < s.size) (h1 : mo s (i + 1) (bt s i / 16) = some (a, j)) (h2 : ¬ s.size - j < a) (h3 : ¬ j + a = s.size) (h4 : s.size < j + a + 2) : pq s i n = none := by
  rw [pq_one h, h1]
  show (if _ then _ else if _ then _ else if _ then _ else _) = _
  rw [if_neg h2, if_neg h3, if_pos h4]
theorem pq_bad2 (h : i < s.size) (h1 : mo s (i + 1) (bt s i / 16) = some (a, j)) (h2 : ¬ s.size - j < a) (h3 : ¬ j + a = s.size) (h4 : ¬ s.size < j + a + 2) (h5 : mo s (j + a + 2) (bt s i % 16) = none) : pq s i n = none := by
  rw [pq_one h, h1]
  show (if _ then _ else if _ then _ else if _ then _ else _) = _
  rw [if_neg h2, if_neg h3, if_neg h4, h5]
theorem pq_far (h : i < s.size) (h1 : mo s (i + 1) (bt s i / 16) = some (a, j)) (h2 : ¬ s.size - j < a) (h3 : ¬ j + a = s.size) (h4 : ¬ s.size < j + a + 2) (h5 : mo s (j + a + 2) (bt s i % 16) = some (b, k)) (h6 : ds s (j + a) = 0 ∨ n + a < ds s (j + a)) : pq s i n = none := by
  rw [pq_one h, h1]
  show (if _ then _ else if _ then _ else if _ then _ else _) = _
  rw [if_neg h2, if_neg h3, if_neg h4, h5]
  exact if_pos h6
theorem pq_go (h : i < s.size) (h1 : mo s (i + 1) (bt s i / 16) = some (a, j)) (h2 : ¬ s.size - j < a) (h3 : ¬ j + a = s.size) (h4 : ¬ s.size < j + a + 2) (h5 : mo s (j + a + 2) (bt s i % 16) = some (b, k)) (h6 : ¬ (ds s (j + a) = 0 ∨ n + a < ds s (j + a))) :
    pq s i n = (pq s k (n + a + (b + 4))).map fun r => (⟨s.extract j (j + a), ds s (j + a), b + 4⟩ :: r.1, r.2) := by
  rw [pq_one h, h1]
  show (if _ then _ else if _ then _ else if _ then _ else _) = _
  rw [if_neg h2, if_neg h3, if_neg h4, h5]
  exact if_neg h6
end
/-- Sequences that can be unpacked, n bytes having been; t bytes in all. -/
def VS : Nat → List SQ → Nat → Prop
  | n, [], t => t = n
  | n, q :: r, t => q.dist ≤ n + q.lit.size ∧ (q.dist = 0 ↔ r = []) ∧ (q.long = 0 ↔ r = []) ∧ VS (n + q.lit.size + q.long) r t
theorem VS.le : ∀ {l : List SQ} {n t : Nat}, VS n l t → n ≤ t
  | [], n, t, h => by rw [VS] at h; omega
  | q :: r, n, t, h => by have := VS.le h.2.2.2; omega
theorem pq_vs {s : ByteArray} : ∀ (f i n : Nat) {l : List SQ} {t : Nat}, s.size - i ≤ f → pq s i n = some (l, t) → VS n l t ∧ l ≠ [] ∧ l.length ≤ s.size - i ∧ t ≤ n + 289 * (s.size - i)
  | f, i, n, l, t, hf, h => by
    by_cases hi : i < s.size
    · cases hm : mo s (i + 1) (bt s i / 16) with
      | none => rw [pq_bad hi hm] at h; cases h
      | some r =>
        obtain ⟨a, j⟩ := r
        have g1 := mo_spec (by omega) hm
        have hb := bt_lt s i
        by_cases c1 : s.size - j < a
        · rw [pq_cut hi hm c1] at h; cases h
        · have hx : (s.extract j (j + a)).size = a := by rw [ByteArray.size_extract]; omega
          by_cases c2 : j + a = s.size
          · rw [pq_last hi hm c1 c2] at h
            split at h
            · simp only [Option.some.injEq, Prod.mk.injEq] at h
              obtain ⟨rfl, rfl⟩ := h
              refine ⟨⟨Nat.zero_le _, by simp, by simp, ?_⟩, by simp, by simp; omega, by omega⟩
              show n + a = n + (s.extract j (j + a)).size + 0
              omega
            · cases h
          · by_cases c3 : s.size < j + a + 2
            · rw [pq_two hi hm c1 c2 c3] at h; cases h
            · cases hk : mo s (j + a + 2) (bt s i % 16) with
              | none => rw [pq_bad2 hi hm c1 c2 c3 hk] at h; cases h
              | some r =>
                obtain ⟨b, k⟩ := r
                have g2 := mo_spec (by omega) hk
                by_cases c4 : ds s (j + a) = 0 ∨ n + a < ds s (j + a)
                · rw [pq_far hi hm c1 c2 c3 hk c4] at h; cases h
                · rw [pq_go hi hm c1 c2 c3 hk c4] at h
                  cases hr : pq s k (n + a + (b + 4)) with
                  | none => rw [hr] at h; cases h
                  | some r =>
                    obtain ⟨l', t'⟩ := r
                    rw [hr] at h
                    simp only [Option.map_some, Option.some.injEq, Prod.mk.injEq] at h
                    obtain ⟨rfl, rfl⟩ := h
                    match f, hf with
                    | 0, hf => omega
                    | f + 1, hf =>
                      obtain ⟨v1, v2, v3, v4⟩ := pq_vs f k _ (by omega) hr
                      refine ⟨⟨?_, ?_, ?_, ?_⟩, by simp, ?_, ?_⟩
                      · show ds s (j + a) ≤ n + (s.extract j (j + a)).size
                        omega
                      · constructor
                        · intro e
                          exact absurd (.inl e) c4
                        · intro e
                          exact absurd e v2
                      · constructor
                        · intro e
                          cases e
                        · intro e
                          exact absurd e v2
                      · show VS (n + (s.extract j (j + a)).size + (b + 4)) l' t'
                        rw [hx]
                        exact v1
                      · rw [List.length_cons]
                        omega
                      · omega
    · rw [pq_end (by omega)] at h; cases h
/-! ### What is unpacked -/
def rp (d : Nat) : Nat → List UInt8 → List UInt8
  | 0, out => out
  | k + 1, out => rp d k (out ++ [out.getD (out.length - d) 0])
def opn : List SQ → List UInt8 → List UInt8
  | [], out => out
  | q :: r, out => opn r (rp q.dist q.long (out ++ q.lit.data.toList))
theorem rp_len (d : Nat) : ∀ (k : Nat) (out : List UInt8), (rp d k out).length = out.length + k
  | 0, out => rfl
  | k + 1, out => by rw [rp, rp_len d k, List.length_append, List.length_singleton]; omega
theorem opn_len : ∀ {l : List SQ} {out : List UInt8} {t : Nat}, VS out.length l t → (opn l out).length = t
  | [], out, t, h => h.symm
  | q :: r, out, t, h => by
    rw [opn]
    refine opn_len ?_
    rw [rp_len, List.length_append]
    have e : q.lit.data.toList.length = q.lit.size := by simp
    rw [e]
    exact h.2.2.2
end Go.Proofs.YtcidfkkgpehodaaDoor

namespace Go.Proofs.YtcidfkkgpehodaaDoor
open Go.RowKit Go.Lib
section
variable {s : ByteArray} {i : Nat}
theorem ix_at (h : i < s.size) (w : World) : (Instr.index 9 (.string s) (.int .i64 (i : Int))).run Tryd.prog w = .ok (.int .u8 ((bt s i : Nat) : Int)) w := by
  have h1 : (i : Int) < (s.size : Int) := by omega
  have h0 : (0 : Int) ≤ (i : Int) := by omega
  rw [bt_at h]
  simp [go_sem, Tryd.underlying9, h]
theorem cv_u8 (s : ByteArray) (i : Nat) (w : World) : (convert 5 3 (.int .u8 ((bt s i : Nat) : Int))).run Tryd.prog w = .ok (.int .i64 ((bt s i : Nat) : Int)) w := by
  have := bt_lt s i
  have e : IntKind.i64.wrap ((bt s i : Nat) : Int) = ((bt s i : Nat) : Int) := by rw [IntKind.wrap_i64]; omega
  simp [go_sem, Tryd.underlying5, Tryd.underlying3, e]
end
def moV : Option (Nat × Nat) → Value
  | none => .tuple #[.int .i64 0, .int .i64 0, .bool false]
  | some (m, j) => .tuple #[.int .i64 (m : Int), .int .i64 (j : Int), .bool true]
end Go.Proofs.YtcidfkkgpehodaaDoor

namespace Go.Proofs.YtcidfkkgpehodaaDoor
open Go.RowKit Go.Lib
theorem quo_u8 (b : Nat) (hb : b < 256) (w : World) : (binOp .quo 5 (.int .u8 (b : Int)) (.int .u8 16)).run Tryd.prog w = .ok (.int .u8 ((b / 16 : Nat) : Int)) w := by
  have e : IntKind.u8.wrap ((b : Int) / 16) = (b : Int) / 16 := by rw [IntKind.wrap_u8]; omega
  simp [go_sem, e]
theorem rem_u8 (b : Nat) (w : World) : (binOp .rem 5 (.int .u8 (b : Int)) (.int .u8 16)).run Tryd.prog w = .ok (.int .u8 ((b % 16 : Nat) : Int)) w := by
  simp [go_sem]
  rfl
theorem cv_small {b : Nat} (hb : b < 256) (w : World) : (convert 5 3 (.int .u8 (b : Int))).run Tryd.prog w = .ok (.int .i64 (b : Int)) w := by
  have e : IntKind.i64.wrap (b : Int) = (b : Int) := by rw [IntKind.wrap_i64]; omega
  simp [go_sem, Tryd.underlying5, Tryd.underlying3, e]
theorem sl_at {s : ByteArray} {a b : Nat} (h1 : a ≤ b) (h2 : b ≤ s.size) (w : World) : (Instr.slice 9 (.string s) (some (.int .i64 (a : Int))) (some (.int .i64 (b : Int))) none).run Tryd.prog w = .ok (.string (s.extract a b)) w := by
  have := run_slice_string (P := Tryd.prog) w 9 s .i64 .i64 (a : Int) (b : Int) Tryd.underlying9 (by omega) (by omega) (by omega)
  simpa using this
/-- A sequence's cells. -/
def sqc (q : SQ) : List Value := [.string q.lit, .int .i64 (q.dist : Int), .int .i64 (q.long : Int)]
theorem sqc_len (q : SQ) : (sqc q).length = 3 := rfl
/-- How many bytes, told at the most. -/
def Cap (N n : Nat) : Prop := (N ≤ 2097152 ∧ n = N) ∨ (2097152 < N ∧ n = 2097152)
end Go.Proofs.YtcidfkkgpehodaaDoor

namespace Go.Proofs.YtcidfkkgpehodaaDoor
open Go.RowKit Go.Lib
theorem Tryd.infoU8 : (Tryd.prog.info? 5).map (fun i => (i.zero, i.size, i.bytes)) = some (some (.int .u8 0), 1, 1) := by kernel_rfl
/-- A byte's cell. -/
def bc (b : UInt8) : List Value := [.int .u8 (b.toNat : Int)]
theorem bc_len (b : UInt8) : (bc b).length = 1 := rfl
theorem bc_flat (O : List UInt8) : O.flatMap bc = O.map fun b => Value.int .u8 (b.toNat : Int) := by
  induction O with
  | nil => rfl
  | cons b r ih => rw [List.flatMap_cons, ih]; rfl
abbrev BO (B : Nat) (v : Value) (O : List UInt8) (w : World) : Prop := OW bc 1 5 B v O w
section
variable {B : Nat} {v : Value} {O : List UInt8} {w : World}
theorem BO.text (h : BO B v O w) (s : ByteArray) (hl : O.length + s.size ≤ 140737488355328) (hB : B ≤ w.heap.size) :
    ∃ v' w', (Builtin.append_ #[58, 9] 58 #[v, .string s]).run Tryd.prog w = .ok v' w' ∧ BO B v' (O ++ s.data.toList) w' ∧ w.grownBy w' v.ownBlock := by
  obtain ⟨i0, hi, hz0, hz1, hz2⟩ := info_parts Tryd.infoU8
  obtain ⟨v', w', h1, h2, h3, _⟩ := run_append_own_string (P := Tryd.prog) (w := w) B 58 9 58 5 i0 Tryd.underlying58 Tryd.underlying9 hi hz0 hz1 hz2 v O.length (O.flatMap bc) h.own s (by unfold maxLen; omega) hl hB
  have e : s.data.toList.length = s.size := by simp
  exact ⟨v', w', h1, ⟨by rw [List.length_append, e, List.flatMap_append, bc_flat s.data.toList]; exact h2⟩, h3⟩
theorem BO.one (h : BO B v O w) (b : UInt8) (hl : O.length + 1 ≤ 100000000) (hB : B ≤ w.heap.size) :
    ∃ v' w', (Builtin.append_ #[58, 58] 58 #[v, .slice (some ⟨w.heap.size, 0, none⟩) 1 1]).run Tryd.prog (w.alloc (.cells #[.int .u8 (b.toNat : Int)] 5)) = .ok v' w' ∧ BO B v' (O ++ [b]) w' ∧ (w.alloc (.cells #[.int .u8 (b.toNat : Int)] 5)).grownBy w' v.ownBlock := by
  have hb1 : Below w.heap.size w (w.alloc (.cells #[.int .u8 (b.toNat : Int)] 5)) := (Below.refl _ _).alloc (Nat.le_refl _) _
  have hS : LS bc 1 (fun _ => True) (w.alloc (.cells #[.int .u8 (b.toNat : Int)] 5)) (.slice (some ⟨w.heap.size, 0, none⟩) 1 1) [b] := LS.one b 5 w bc 1 (fun _ => True) trivial
  obtain ⟨v', w2, h1, h2, h3, _⟩ := (h.keep hb1).app bc_len (by decide) (fun x hx u hu => by
    simp [bc] at hu
    subst hu
    rfl) Tryd.underlying58 Tryd.infoU8 rfl hS (by simp; omega) (by simp; omega) (Nat.le_trans hB hb1.size)
  exact ⟨v', w2, h1, h2, h3⟩
theorem BO.str (h : BO B v O w) : (convert 58 9 v).run Tryd.prog w = .ok (.string ⟨O.toArray⟩) w := by
  obtain ⟨_, ⟨rfl, h2⟩ | ⟨g, cap, cur, rfl, hB, hg, hn, _, hs, ht⟩⟩ := h.own
  · rw [List.length_eq_zero_iff.1 h2]
    exact run_convert_bytes_nil w 58 5 Tryd.underlying58 Tryd.underlying5 0 0 9 Tryd.underlying9
  · refine run_convert_bytes_back w 58 9 5 ⟨g, 0, none⟩ cap O Tryd.underlying58 Tryd.underlying5 Tryd.underlying9 (fun j hj => ?_)
    rw [Addr.add_mid, Nat.zero_add, cell_of_row w g _ _ _ _ hg]
    have e0 : (O.flatMap bc)[j]? = some (.int .u8 (O[j].toNat : Int)) := by rw [bc_flat, List.getElem?_map, List.getElem?_eq_getElem hj]; rfl
    rw [← ht, List.getElem?_take, if_pos (by omega)] at e0
    simpa using e0
/-- A byte of them, as it lies there. -/
theorem BO.cell (h : BO B v O w) {j : Nat} (hj : j < O.length) : ∃ g c, v = .slice (some ⟨g, 0, none⟩) O.length c ∧ w.cell? ⟨g, j, none⟩ = some (.int .u8 ((O.getD j 0).toNat : Int)) := by
  obtain ⟨_, ⟨rfl, h2⟩ | ⟨g, cap, cur, rfl, hB, hg, hn, _, hs, ht⟩⟩ := h.own
  · omega
  · refine ⟨g, cap, rfl, ?_⟩
    rw [cell_of_row w g _ _ _ _ hg]
    have e0 : (O.flatMap bc)[j]? = some (.int .u8 ((O.getD j 0).toNat : Int)) := by rw [bc_flat, List.getElem?_map, List.getD_eq_getElem?_getD, List.getElem?_eq_getElem hj]; rfl
    rw [← ht, List.getElem?_take, if_pos (by omega)] at e0
    simpa using e0
end
end Go.Proofs.YtcidfkkgpehodaaDoor

namespace Go.Proofs.YtcidfkkgpehodaaDoor
open Go.RowKit Go.Lib
theorem opn_cons (q : SQ) (r : List SQ) (O : List UInt8) : opn (q :: r) O = opn r (rp q.dist q.long (O ++ q.lit.data.toList)) := rfl
end Go.Proofs.YtcidfkkgpehodaaDoor

namespace Go.Proofs.YtcidfkkgpehodaaDoor
open Go.RowKit Go.Lib
/-- What a block unpacks to, told how long it is: the bytes, the code. -/
def upS (s : ByteArray) (n : Int) : ByteArray := match ps s with
  | some (l, t) => if 0 ≤ n ∧ n ≤ 1048576 ∧ (t : Int) = n then ⟨(opn l []).toArray⟩ else ⟨#[]⟩
  | none => ⟨#[]⟩
def upC (s : ByteArray) (n : Int) : Int := if 0 ≤ n ∧ n ≤ 1048576 then (match ps s with
  | some (_, t) => if (t : Int) = n then 0 else 120
  | none => 120) else 1
theorem up_bad {s : ByteArray} {n : Int} (h : ¬ (0 ≤ n ∧ n ≤ 1048576)) : upS s n = ⟨#[]⟩ ∧ upC s n = 1 := by
  rw [upS, upC, if_neg h]
  refine ⟨?_, rfl⟩
  split
  · rw [if_neg (fun e => h ⟨e.1, e.2.1⟩)]
  · rfl
theorem up_none {s : ByteArray} {n : Int} (h : 0 ≤ n ∧ n ≤ 1048576) (hp : ps s = none) : upS s n = ⟨#[]⟩ ∧ upC s n = 120 := by
  rw [upS, upC, if_pos h, hp]
  exact ⟨rfl, rfl⟩
theorem up_other {s : ByteArray} {n : Int} {l : List SQ} {t : Nat} (h : 0 ≤ n ∧ n ≤ 1048576) (hp : ps s = some (l, t)) (ht : ¬ (t : Int) = n) : upS s n = ⟨#[]⟩ ∧ upC s n = 120 := by
  rw [upS, upC, if_pos h, hp]
  exact ⟨if_neg (fun e => ht e.2.2), if_neg ht⟩
theorem up_ok {s : ByteArray} {n : Int} {l : List SQ} {t : Nat} (h : 0 ≤ n ∧ n ≤ 1048576) (hp : ps s = some (l, t)) (ht : (t : Int) = n) : upS s n = ⟨(opn l []).toArray⟩ ∧ upC s n = 0 := by
  rw [upS, upC, if_pos h, hp]
  exact ⟨if_pos ⟨h.1, h.2, ht⟩, if_pos ht⟩
theorem ps_vs {s : ByteArray} {l : List SQ} {t : Nat} (h : ps s = some (l, t)) : VS 0 l t ∧ l ≠ [] ∧ l.length ≤ s.size ∧ t ≤ 289 * s.size := by
  obtain ⟨a, b, c, d⟩ := pq_vs s.size 0 0 (by omega) h
  exact ⟨a, b, by omega, by omega⟩
/-- The sequences of a block, and the code. -/
def sqL (s : ByteArray) : List SQ := match ps s with
  | some (l, t) => if t ≤ 1048576 then l else []
  | none => []
def sqC (s : ByteArray) : Int := match ps s with
  | some (_, t) => if t ≤ 1048576 then 0 else 2
  | none => 120
/-- The most bytes that a block of so many has. -/
def bdA (n : Int) : Value := if 0 ≤ n ∧ n ≤ 1048576 then .tuple #[.int .i64 (n + n / 255 + 16), .int .i64 0] else .tuple #[.int .i64 0, .int .i64 1]
end Go.Proofs.YtcidfkkgpehodaaDoor

namespace Go.Proofs.YtcidfkkgpehodaaDoor
open Go.RowKit Go.Lib
/-- A byte, as bytes. -/
def b1 (k : Nat) : ByteArray := ⟨#[UInt8.ofNat k]⟩
/-- The id of a text of a kind. -/
def idB (k : Nat) (t : ByteArray) : ByteArray := Zq.Sh.strOf (Zq.Sh.digest ((b1 k ++ t).data.toList))
/-- The first byte of bytes; a kind that is one. -/
def fb (s : ByteArray) : Nat := bt s 0
def kn (k : Int) : Bool := k == 1 || k == 2
/-- The length that is told behind the first byte. -/
def hdA (s : ByteArray) : Zq.Nm.Ah := Zq.Nm.shortA s 1 65536
def okH (s : ByteArray) : Bool := decide (0 < s.size) && (kn (fb s) || kn ((fb s : Int) - 16)) && ((hdA s).code == 0)
def lnB (s : ByteArray) : Nat := if okH s then (hdA s).num else 0
def atB (s : ByteArray) : Nat := if okH s then 1 + (hdA s).long else 0
def cdB (s : ByteArray) : Int := if okH s then 0 else 130
/-- What bytes are: the kind and the text. -/
def dcB (s : ByteArray) : Option (Nat × ByteArray) :=
  if okH s then
    (if fb s < 16 then (if s.size - atB s = lnB s then some (fb s, s.extract (atB s) s.size) else none)
     else if upC (s.extract (atB s) s.size) (lnB s) = 0 then some (fb s - 16, upS (s.extract (atB s) s.size) (lnB s)) else none)
  else none
def dK (d : Option (Nat × ByteArray)) : Int := match d with | some (k, _) => (k : Int) | none => 0
def dT (d : Option (Nat × ByteArray)) : ByteArray := match d with | some (_, t) => t | none => ⟨#[]⟩
def dC (d : Option (Nat × ByteArray)) : Int := match d with | some _ => 0 | none => 130
/-- What bytes are, that are asked for by an id. -/
def opB (s i : ByteArray) : Option (Nat × ByteArray) := match dcB s with
  | some (k, t) => if idB k t = i then some (k, t) else none
  | none => none
theorem kn_iff {k : Int} : kn k = true ↔ k = 1 ∨ k = 2 := by simp [kn]
theorem hd_no {s : ByteArray} (h : okH s = false) : lnB s = 0 ∧ atB s = 0 ∧ cdB s = 130 ∧ dcB s = none := by simp [lnB, atB, cdB, dcB, h]
/-- A head that is one. -/
theorem hd_yes {s : ByteArray} (h : okH s = true) : 0 < s.size ∧ (fb s = 1 ∨ fb s = 2 ∨ fb s = 17 ∨ fb s = 18) ∧ hdA s = ⟨lnB s, ⟨#[]⟩, (hdA s).long, 0⟩ ∧ atB s = 1 + (hdA s).long ∧ atB s ≤ s.size ∧ lnB s ≤ 65536 ∧ cdB s = 0 := by
  have h0 := h
  simp only [okH, Bool.and_eq_true, Bool.or_eq_true, decide_eq_true_eq, beq_iff_eq, kn_iff] at h0
  obtain ⟨⟨h1, h2⟩, h3⟩ := h0
  have e1 : atB s = 1 + (hdA s).long := by simp [atB, h]
  have e2 : lnB s = (hdA s).num := by simp [lnB, h]
  have e3 : cdB s = 0 := by simp [cdB, h]
  refine ⟨h1, by omega, ?_, e1, ?_⟩
  · rcases Zq.Nm.shortA_cases s 1 65536 (by omega) with ⟨c, hc, e⟩ | ⟨n, l, e, _⟩
    · exact absurd (by rw [hdA, e] at h3; exact h3) hc
    · rw [e2]; rw [hdA, e]
  · rcases Zq.Nm.shortA_cases s 1 65536 (by omega) with ⟨c, hc, e⟩ | ⟨n, l, e, a1, a2, a3⟩
    · exact absurd (by rw [hdA, e] at h3; exact h3) hc
    · rw [e1, e2, hdA, e]
      exact ⟨a1, by show n ≤ 65536; omega, e3⟩
theorem ok_no1 {s : ByteArray} (h : s.size = 0) : okH s = false := by simp [okH, h]
theorem ok_no2 {s : ByteArray} (h1 : kn (fb s) = false) (h2 : kn ((fb s : Int) - 16) = false) : okH s = false := by simp [okH, h1, h2]
theorem ok_no3 {s : ByteArray} {c : Int} (h : hdA s = .bad c) (hc : c ≠ 0) : okH s = false := by
  simp [okH, h, Zq.Nm.Ah.bad, hc]
end Go.Proofs.YtcidfkkgpehodaaDoor

namespace Go.Proofs.YtcidfkkgpehodaaDoor
open Go.RowKit Go.Lib
end Go.Proofs.YtcidfkkgpehodaaDoor

namespace Go.Proofs.YtcidfkkgpehodaaDoor
open Go.RowKit Go.Lib
theorem bl_from {r : ByteArray} {a : Nat} (h1 : a ≤ r.size) (w : World) : (Instr.slice 9 (.string r) (some (.int .i64 (a : Int))) none none).run Tryd.prog w = .ok (.string (r.extract a r.size)) w := by
  have h2 : (a : Int) ≤ (r.size : Int) := by omega
  simp [go_sem, Tryd.underlying9, h2]
end Go.Proofs.YtcidfkkgpehodaaDoor

namespace Go.Proofs.YtcidfkkgpehodaaDoor
open Go.RowKit Go.Lib
/-- One byte as a new row, turned into a text. -/
theorem conv1 {w : World} {g : Nat} {a : UInt8} (h : w.heap[g]? = some (.cells #[.int .u8 (a.toNat : Int)] 5 (0, 0))) :
    (convert 58 9 (.slice (some ⟨g, 0, none⟩) 1 1)).run Tryd.prog w = .ok (.string ⟨#[a]⟩) w := by
  have h0 : w.cell? ⟨g, 0, none⟩ = some (.int .u8 (a.toNat : Int)) := by simp [World.cell?, h]
  have := run_convert_bytes_arg w 58 5 Tryd.underlying58 Tryd.underlying5 g 0 1 1 ([a].map fun b => (b.toNat : Int)) (by simp)
    (fun i hi => by
      rw [Nat.zero_add]
      match i, hi with
      | 0, _ => exact h0) 9 Tryd.underlying9
  rw [this]
  simp [strOfNums]
/-- A kind's byte, made and turned into a text. -/
theorem conv_k {k : Nat} (hk : k < 256) : (∀ w1 : World, (convert 58 9 (.slice (some ⟨w1.heap.size, 0, none⟩) 1 1)).run Tryd.prog (w1.alloc (.cells #[.int .u8 (k : Int)] 5)) = .ok (.string (b1 k)) (w1.alloc (.cells #[.int .u8 (k : Int)] 5))) ∧
    (∀ w1 : World, (convert 58 9 (.slice (some ⟨w1.heap.size, 0, none⟩) 1 1)).run Tryd.prog (w1.alloc (.cells #[.int .u8 (k : Int)] 5)).drew = .ok (.string (b1 k)) (w1.alloc (.cells #[.int .u8 (k : Int)] 5)).drew) ∧
    (∀ w1 : World, (convert 58 9 (.slice (some ⟨w1.heap.size, 0, none⟩) 1 1)).run Tryd.prog (w1.alloc (.cells #[.int .u8 (IntKind.u8.wrap (k : Int))] 5)) = .ok (.string (b1 k)) (w1.alloc (.cells #[.int .u8 (IntKind.u8.wrap (k : Int))] 5))) ∧
    (∀ w1 : World, (convert 58 9 (.slice (some ⟨w1.heap.size, 0, none⟩) 1 1)).run Tryd.prog (w1.alloc (.cells #[.int .u8 (IntKind.u8.wrap (k : Int))] 5)).drew = .ok (.string (b1 k)) (w1.alloc (.cells #[.int .u8 (IntKind.u8.wrap (k : Int))] 5)).drew) := by
  have e : (k : Int) = ((UInt8.ofNat k).toNat : Int) := by
    rw [UInt8.toNat_ofNat']
    omega
  have e2 : IntKind.u8.wrap (k : Int) = (k : Int) := by rw [IntKind.wrap_u8]; omega
  have X : ∀ (w1 : World) (g : Nat), w1.heap[g]? = some (.cells #[.int .u8 (k : Int)] 5 (0, 0)) → (convert 58 9 (.slice (some ⟨g, 0, none⟩) 1 1)).run Tryd.prog w1 = .ok (.string (b1 k)) w1 := fun w1 g h => by
    rw [e] at h
    exact conv1 h
  rw [e2]
  exact ⟨fun w1 => X _ _ (heap_alloc_new w1 _), fun w1 => X _ _ (heap_alloc_new w1 _), fun w1 => X _ _ (heap_alloc_new w1 _), fun w1 => X _ _ (heap_alloc_new w1 _)⟩
theorem conv_at {k : Nat} {w1 : World} {g : Nat} (h : w1.heap[g]? = some (.cells #[.int .u8 (IntKind.u8.wrap (k : Int))] 5 (0, 0))) : (convert 58 9 (.slice (some ⟨g, 0, none⟩) 1 1)).run Tryd.prog w1 = .ok (.string (b1 k)) w1 := by
  have e2 : IntKind.u8.wrap (k : Int) = ((UInt8.ofNat k).toNat : Int) := by rw [IntKind.wrap_u8, UInt8.toNat_ofNat']; omega
  rw [e2] at h
  exact conv1 h
theorem below_al {w w' : World} (h : Below w.heap.size w w') (o : Obj) : Below w.heap.size w (w'.alloc o) := h.alloc h.size _
theorem b1_size (k : Nat) : (b1 k).size = 1 := rfl
theorem ba_add (a b : ByteArray) : (a ++ b).size = a.size + b.size := ByteArray.size_append
/-- Texts that are unlike. -/
theorem ne_list {a b : ByteArray} (h : ¬ a = b) : (a.toList == b.toList) = false := by
  rw [bytes_list, bytes_list]
  simp only [beq_eq_false_iff_ne, ne_eq]
  intro e
  exact h (ByteArray.ext (Array.toList_inj.1 e))
set_option maxRecDepth 100000 in
set_option maxHeartbeats 800000 in
theorem rsum_any {w : World} {k : Nat} {t : ByteArray} (hk : k < 256) (ht : t.size ≤ 140737488355400) : Calls Tryd.prog 30 #[.int .i64 (k : Int), .string t] w fun e w' => e = .returned (.string (idB k t)) ∧ Below w.heap.size w w' := by
  obtain ⟨hcn, hcn2, _, _⟩ := conv_k hk
  have HD := fun wx => Zq.Sh.refDigest_any ((b1 k ++ t).data.toList) wx (by
    have h1 := ba_add (b1 k) t
    rw [b1_size, ByteArray.size, ← Array.length_toList] at h1
    omega)
  have HD := hide HD
  rw [Zq.Sh.strOf_self', ← idB] at HD
  have hz := b1_size k
  have HB := hide (Below.refl w.heap.size w)
  obtain ⟨K, hK⟩ : ∃ K, b1 k = K := ⟨_, rfl⟩
  obtain ⟨S, hS⟩ : ∃ S, b1 k ++ t = S := ⟨_, rfl⟩
  rw [hS] at HD
  rw [hK] at hcn hcn2 hz hS
  clear hK
  go_enter Tryd.func30, Tryd.ntmps30
  go_wp2_with fail
  refine (HD.out _).mono ?_
  rintro _ w2 ⟨rfl, hb⟩
  have HB2 := hide (below_step ((Below.refl _ _).alloc (Nat.le_refl _) _) hb)
  clear hb
  go_wp2
  go_ret
  exact ⟨rfl, HB2.out⟩
/-- What is decoded is small. -/
theorem dc_small {s : ByteArray} {k : Nat} {t : ByteArray} (h : dcB s = some (k, t)) : (k = 1 ∨ k = 2) ∧ t.size ≤ s.size + 65536 := by
  rcases ho : okH s with _ | _
  · rw [(hd_no ho).2.2.2] at h
    exact absurd h (by simp)
  · obtain ⟨h0, hf, hA, h4, h5, h6, h7⟩ := hd_yes ho
    rw [dcB, ho, if_pos rfl] at h
    by_cases c : fb s < 16
    · rw [if_pos c] at h
      by_cases d : s.size - atB s = lnB s
      · rw [if_pos d] at h
        simp only [Option.some.injEq, Prod.mk.injEq] at h
        obtain ⟨rfl, rfl⟩ := h
        refine ⟨by omega, ?_⟩
        rw [ByteArray.size_extract]
        omega
      · rw [if_neg d] at h
        exact absurd h (by simp)
    · rw [if_neg c] at h
      by_cases d : upC (s.extract (atB s) s.size) (lnB s) = 0
      · rw [if_pos d] at h
        simp only [Option.some.injEq, Prod.mk.injEq] at h
        obtain ⟨rfl, rfl⟩ := h
        refine ⟨by omega, ?_⟩
        have hn : (0 : Int) ≤ (lnB s : Int) ∧ (lnB s : Int) ≤ 1048576 := by omega
        rcases hp : ps (s.extract (atB s) s.size) with _ | ⟨l, n⟩
        · rw [(up_none hn hp).1]
          exact Nat.zero_le _
        · by_cases e : (n : Int) = (lnB s : Int)
          · rw [(up_ok hn hp e).1]
            have h1 := opn_len (out := []) (ps_vs hp).1
            show (opn l []).toArray.size ≤ _
            rw [List.size_toArray, h1]
            omega
          · rw [(up_other hn hp e).1]
            exact Nat.zero_le _
      · rw [if_neg d] at h
        exact absurd h (by simp)
theorem op_none {s i : ByteArray} (h : dcB s = none) : opB s i = none := by rw [opB, h]
theorem op_other {s i : ByteArray} {k : Nat} {t : ByteArray} (h : dcB s = some (k, t)) (hi : ¬ idB k t = i) : opB s i = none := by
  rw [opB, h]
  exact if_neg hi
theorem op_ok {s i : ByteArray} {k : Nat} {t : ByteArray} (h : dcB s = some (k, t)) (hi : idB k t = i) : opB s i = some (k, t) := by
  rw [opB, h]
  exact if_pos hi
end Go.Proofs.YtcidfkkgpehodaaDoor

namespace Go.Proofs.YtcidfkkgpehodaaDoor
open Go.RowKit Go.Lib
/-- An id that is asked for, and its code. -/
def idS (k : Int) (t : ByteArray) : ByteArray := if kn k then idB k.toNat t else ⟨#[]⟩
def idC (k : Int) : Int := if kn k then 0 else 1
/-- What writing refuses. -/
def rfC (k : Int) (t : ByteArray) : Int := if kn k then (if t.size ≤ 65536 then 0 else 2) else 1
/-- A text's bytes, not packed: the kind may bear 16 more. -/
def plB (k : Nat) (t : ByteArray) : ByteArray := b1 k ++ Zq.Nm.textOf t
end Go.Proofs.YtcidfkkgpehodaaDoor

namespace Go.Proofs.YtcidfkkgpehodaaDoor
open Go.RowKit Go.Lib
/-- What Unpack of the program answers, where K holds. -/
def UnpackC (K : World → Prop) : Prop := ∀ (w : World) (s : ByteArray) (n : Int), K w → s.size ≤ 140000 → Calls Tryd.prog 76 #[.string s, .int .i64 n] w fun e w' => e = .returned (.tuple #[.string (upS s n), .int .i64 (upC s n)]) ∧ Below w.heap.size w w'
/-- K is kept where new memory alone is made. -/
def Kept (K : World → Prop) : Prop := ∀ w w', K w → Below w.heap.size w w' → K w'
theorem ex12 : upS ⟨#[21, 97, 1, 0, 16, 98]⟩ 11 = ⟨#[97, 97, 97, 97, 97, 97, 97, 97, 97, 97, 98]⟩ ∧ upC ⟨#[21, 97, 1, 0, 16, 98]⟩ 11 = 0 := by
  have h : ps ⟨#[21, 97, 1, 0, 16, 98]⟩ = some ([⟨⟨#[97]⟩, 1, 9⟩, ⟨⟨#[98]⟩, 0, 0⟩], 11) := by decide +kernel
  exact ⟨((up_ok (by decide) h rfl).1).trans (by decide +kernel), (up_ok (by decide) h rfl).2⟩
section
variable {K : World → Prop}
/-- A list of sequences that is read. -/
theorem OW.sq {T : TypeId} {B : Nat} {v : Value} {l : List SQ} {w : World} (h : OW sqc 3 T B v l w) {i : Nat} {q : SQ} (hq : l[i]? = some q) : ∃ g c, v = .slice (some ⟨g, 0, none⟩) l.length c ∧ g < w.heap.size ∧
    w.cell? ⟨g, i * 3, none⟩ = some (.string q.lit) ∧ w.cell? ⟨g, i * 3 + 1, none⟩ = some (.int .i64 (q.dist : Int)) ∧ w.cell? ⟨g, i * 3 + 2, none⟩ = some (.int .i64 (q.long : Int)) := by
  have hi : i < l.length := (List.getElem?_eq_some_iff.1 hq).1
  obtain ⟨_, ⟨rfl, h2⟩ | ⟨g, cap, cur, rfl, hB, hg, hn, _, hs, ht⟩⟩ := h.own
  · omega
  · refine ⟨g, cap, rfl, lt_of_block hg, ?_, ?_, ?_⟩
    all_goals rw [cell_of_row w g _ _ _ _ hg]
    · have e0 : (l.flatMap sqc)[i * 3 + 0]? = some (.string q.lit) := by rw [flat_get sqc_len l i 0 (by decide), hq]; rfl
      rw [← ht, List.getElem?_take, if_pos (by omega)] at e0
      simpa using e0
    · have e0 : (l.flatMap sqc)[i * 3 + 1]? = some (.int .i64 (q.dist : Int)) := by rw [flat_get sqc_len l i 1 (by decide), hq]; rfl
      rw [← ht, List.getElem?_take, if_pos (by omega)] at e0
      simpa using e0
    · have e0 : (l.flatMap sqc)[i * 3 + 2]? = some (.int .i64 (q.long : Int)) := by rw [flat_get sqc_len l i 2 (by decide), hq]; rfl
      rw [← ht, List.getElem?_take, if_pos (by omega)] at e0
      simpa using e0
end
end Go.Proofs.YtcidfkkgpehodaaDoor

namespace Go.Proofs.YtcidfkkgpehodaaDoor
open Go.RowKit Go.Lib
/-- A way to pack bytes, that is unpacked to them. -/
structure PackF (pk : ByteArray → ByteArray) : Prop where
  back : ∀ s : ByteArray, s.size ≤ 1048576 → ∃ l, ps (pk s) = some (l, s.size) ∧ (⟨(opn l []).toArray⟩ : ByteArray) = s
  size : ∀ s : ByteArray, s.size ≤ 1048576 → (pk s).size ≤ s.size + s.size / 255 + 16
def pkV (pk : ByteArray → ByteArray) (s : ByteArray) : Value := if s.size ≤ 1048576 then .tuple #[.string (pk s), .int .i64 0] else .tuple #[.string ⟨#[]⟩, .int .i64 2]
/-- What Pack of the program answers, where K holds. -/
def PackC (K : World → Prop) (pk : ByteArray → ByteArray) : Prop := ∀ (w : World) (s : ByteArray), K w → s.size ≤ 5000 ∨ 1048576 < s.size → s.size ≤ 4611686018427387904 → Calls Tryd.prog 52 #[.string s] w fun e w' => e = .returned (pkV pk s) ∧ Below w.heap.size w w'
theorem bdA_is (n : Int) : ∃ a b : Int, bdA n = .tuple #[.int .i64 a, .int .i64 b] := by rw [bdA]; split; exact ⟨_, _, rfl⟩; exact ⟨_, _, rfl⟩
theorem PackF.up {pk : ByteArray → ByteArray} (h : PackF pk) {s : ByteArray} (hs : s.size ≤ 1048576) : upS (pk s) (s.size : Int) = s ∧ upC (pk s) (s.size : Int) = 0 := by
  obtain ⟨l, h1, h2⟩ := h.back s hs
  obtain ⟨a, b⟩ := up_ok (s := pk s) (n := (s.size : Int)) (by omega) h1 rfl
  exact ⟨a.trans h2, b⟩
section
variable {K : World → Prop} {pk : ByteArray → ByteArray}
end
end Go.Proofs.YtcidfkkgpehodaaDoor

namespace Go.Proofs.YtcidfkkgpehodaaDoor
/-- p is what q begins with. -/
structure Pre (p q : ByteArray) : Prop where
  sz : p.size ≤ q.size
  at_ : ∀ i, i < p.size → bt p i = bt q i
section
variable {p q : ByteArray}
theorem moG_pre (h : Pre p q) : ∀ (f f' i n : Nat) {r : Nat × Nat}, p.size - i ≤ f → q.size - i ≤ f' → moG p f i n = some r → moG q f' i n = some r
  | 0, _, _, _, _, _, _, hm => by cases hm
  | f + 1, f', i, n, r, h1, h2, hm => by
    rw [moG] at hm
    by_cases hi : i < p.size
    · rw [if_pos hi] at hm
      have hq : i < q.size := by have := h.sz; omega
      obtain ⟨g, rfl⟩ : ∃ g, f' = g + 1 := ⟨f' - 1, by omega⟩
      rw [moG, if_pos hq, ← h.at_ i hi]
      by_cases hb : bt p i < 255
      · rw [if_pos hb] at hm ⊢
        exact hm
      · rw [if_neg hb] at hm ⊢
        exact moG_pre h f g (i + 1) _ (by omega) (by omega) hm
    · rw [if_neg hi] at hm
      cases hm
theorem mo_pre (h : Pre p q) {i n : Nat} {r : Nat × Nat} (hm : mo p i n = some r) : mo q i n = some r := by
  rw [mo] at hm ⊢
  split at hm
  · rename_i hn
    rw [if_pos hn]
    exact hm
  · rename_i hn
    rw [if_neg hn]
    exact moG_pre h _ _ _ _ (Nat.le_refl _) (Nat.le_refl _) hm
theorem pq_least {s : ByteArray} {i n : Nat} {l : List SQ} {t : Nat} (h : pq s i n = some (l, t)) : n ≤ t := (pq_vs (s.size - i) i n (Nat.le_refl _) h).1.le
theorem pq_pre (h : Pre p q) (hlt : p.size < q.size) : ∀ (f i n : Nat) {l : List SQ} {t : Nat}, p.size - i ≤ f → pq p i n = some (l, t) → pq q i n = none ∨ ∃ l' t', pq q i n = some (l', t') ∧ t < t'
  | f, i, n, l, t, hf, hp => by
    by_cases hi : i < p.size
    · have hiq : i < q.size := by omega
      have hbi := h.at_ i hi
      cases hm : mo p (i + 1) (bt p i / 16) with
      | none => rw [pq_bad hi hm] at hp; cases hp
      | some r =>
        obtain ⟨a, j⟩ := r
        have g1 := mo_spec (by omega) hm
        have hmq := mo_pre h hm
        rw [hbi] at hmq
        by_cases c1 : p.size - j < a
        · rw [pq_cut hi hm c1] at hp; cases hp
        have c1q : ¬ q.size - j < a := by omega
        by_cases c2 : j + a = p.size
        · rw [pq_last hi hm c1 c2] at hp
          split at hp
          · simp only [Option.some.injEq, Prod.mk.injEq] at hp
            have c2q : ¬ j + a = q.size := by omega
            by_cases c3 : q.size < j + a + 2
            · exact .inl (pq_two hiq hmq c1q c2q c3)
            · cases hk : mo q (j + a + 2) (bt q i % 16) with
              | none => exact .inl (pq_bad2 hiq hmq c1q c2q c3 hk)
              | some r =>
                obtain ⟨b, k⟩ := r
                by_cases c4 : ds q (j + a) = 0 ∨ n + a < ds q (j + a)
                · exact .inl (pq_far hiq hmq c1q c2q c3 hk c4)
                · rw [pq_go hiq hmq c1q c2q c3 hk c4]
                  cases hr : pq q k (n + a + (b + 4)) with
                  | none => exact .inl rfl
                  | some r =>
                    obtain ⟨l2, t2⟩ := r
                    have := pq_least hr
                    exact .inr ⟨_, t2, rfl, by omega⟩
          · cases hp
        · by_cases c3 : p.size < j + a + 2
          · rw [pq_two hi hm c1 c2 c3] at hp; cases hp
          · have c2q : ¬ j + a = q.size := by omega
            have c3q : ¬ q.size < j + a + 2 := by omega
            cases hk : mo p (j + a + 2) (bt p i % 16) with
            | none => rw [pq_bad2 hi hm c1 c2 c3 hk] at hp; cases hp
            | some r =>
              obtain ⟨b, k⟩ := r
              have g2 := mo_spec (by omega) hk
              have hkq := mo_pre h hk
              rw [hbi] at hkq
              have hd : ds p (j + a) = ds q (j + a) := by rw [ds, ds, h.at_ _ (by omega), h.at_ _ (by omega)]
              by_cases c4 : ds p (j + a) = 0 ∨ n + a < ds p (j + a)
              · rw [pq_far hi hm c1 c2 c3 hk c4] at hp; cases hp
              · rw [pq_go hi hm c1 c2 c3 hk c4] at hp
                cases hr : pq p k (n + a + (b + 4)) with
                | none => rw [hr] at hp; cases hp
                | some r =>
                  obtain ⟨l2, t2⟩ := r
                  rw [hr] at hp
                  simp only [Option.map_some, Option.some.injEq, Prod.mk.injEq] at hp
                  obtain ⟨_, rfl⟩ := hp
                  match f, hf with
                  | 0, hf => omega
                  | f + 1, hf =>
                    rw [pq_go hiq hmq c1q c2q c3q hkq (by rw [← hd]; exact c4)]
                    rcases pq_pre h hlt f k _ (by omega) hr with h0 | ⟨l3, t3, h0, h4⟩
                    · rw [h0]; exact .inl rfl
                    · rw [h0]; exact .inr ⟨_, t3, rfl, h4⟩
    · rw [pq_end (by omega)] at hp; cases hp
theorem ps_pre (h : Pre p q) (hlt : p.size < q.size) {l : List SQ} {t : Nat} (hp : ps p = some (l, t)) : ps q = none ∨ ∃ l' t', ps q = some (l', t') ∧ t < t' := pq_pre h hlt p.size 0 0 (by omega) hp
end
theorem bt_extract {s : ByteArray} {k i : Nat} (hi : i < k) (hk : k ≤ s.size) : bt (s.extract 0 k) i = bt s i := by
  have h1 : i < (s.extract 0 k).size := by rw [ByteArray.size_extract]; omega
  rw [bt_at h1, bt_at (show i < s.size by omega)]
  congr 1
  rw [ByteArray.getElem_extract]
  simp
theorem pre_take {s : ByteArray} {k : Nat} (hk : k ≤ s.size) : Pre (s.extract 0 k) s :=
  ⟨by rw [ByteArray.size_extract]; omega, fun i hi => bt_extract (by rw [ByteArray.size_extract] at hi; omega) hk⟩
theorem pre_app (s t : ByteArray) : Pre s (s ++ t) := by
  refine ⟨by rw [ByteArray.size_append]; omega, fun i hi => ?_⟩
  have h2 : i < (s ++ t).size := by rw [ByteArray.size_append]; omega
  rw [bt_at hi, bt_at h2]
  congr 1
  rw [ByteArray.getElem_append_left hi]
end Go.Proofs.YtcidfkkgpehodaaDoor

namespace Go.Proofs.YtcidfkkgpehodaaDoor
open Go.RowKit Go.Lib

def amg (x : Int) (n : Nat) : Nat := ((x.tmod n + n).tmod n).toNat
theorem amg_spec (x : Int) (n : Nat) (hn : 0 < n) : (x.tmod n + n).tmod n = (amg x n : Int) ∧ amg x n < n ∧ 0 ≤ x.tmod n + n ∧ x.tmod n + n < 2 * n := by
  have hp : (0 : Int) < n := by omega
  have h2 : -(n : Int) < x.tmod n ∧ x.tmod n < n := by
    rcases Int.le_total 0 x with h | h
    · have a := Int.tmod_nonneg (n : Int) h
      have b := Int.tmod_lt_of_pos x hp
      omega
    · have a := Int.tmod_nonneg (n : Int) (show 0 ≤ -x by omega)
      have b := Int.tmod_lt_of_pos (-x) hp
      rw [Int.neg_tmod] at a b
      omega
  have h3 : 0 ≤ x.tmod n + n := by omega
  have h4 : 0 ≤ (x.tmod n + n).tmod n := Int.tmod_nonneg _ h3
  have h5 := Int.tmod_lt_of_pos (x.tmod n + n) (show (0 : Int) < n by omega)
  refine ⟨by rw [amg]; omega, by rw [amg]; omega, h3, by omega⟩
set_option maxRecDepth 100000 in
theorem among_any (w : World) (x : Int) (n : Nat) (hn : 0 < n) (hn2 : n < 100000) : Calls Tryd.prog 20 #[.int .i64 x, .int .i64 n] w fun e w' => e = .returned (.int .i64 ((amg x n : Nat) : Int)) ∧ w' = w := by
  obtain ⟨h1, h2, h3, h4⟩ := amg_spec x n hn
  have hb := IntKind.i64.wrap
  generalize amg x n = r at *
  have h0 : ((n : Int) == 0) = false := by simp; omega
  have h0' : ¬ ((n : Int) = 0) := by omega
  have hm1 : ¬ ((n : Int) = -1) := by omega
  obtain ⟨y, hy⟩ : ∃ y, y = x.tmod n := ⟨_, rfl⟩
  rw [← hy] at h1 h3 h4
  have hy' := hy.symm
  clear hy hb
  go_enter Tryd.func20, Tryd.ntmps20
  go_wp2
  go_ret
  exact ⟨rfl, rfl⟩
end Go.Proofs.YtcidfkkgpehodaaDoor

namespace Go.Proofs.YtcidfkkgpehodaaDoor
open Go.RowKit Go.Lib
section
variable {pk : ByteArray → ByteArray} {s : ByteArray}
theorem PackF.more (h : PackF pk) (hs : s.size ≤ 2000) : upC (pk s) ((s.size : Int) + 1) = 120 := by
  obtain ⟨l, h1, _⟩ := h.back s (by omega)
  exact (up_other (by omega) h1 (by omega)).2
theorem PackF.cut (h : PackF pk) (hs : s.size ≤ 2000) {k : Nat} (hk : k < (pk s).size) : upC ((pk s).extract 0 k) (s.size : Int) = 120 := by
  obtain ⟨l, h1, _⟩ := h.back s (by omega)
  cases hp : ps ((pk s).extract 0 k) with
  | none => exact (up_none (by omega) hp).2
  | some r =>
    obtain ⟨l2, t2⟩ := r
    refine (up_other (by omega) hp ?_).2
    rcases ps_pre (pre_take (Nat.le_of_lt hk)) (by rw [ByteArray.size_extract]; omega) hp with h0 | ⟨l3, t3, h0, h4⟩
    · rw [h0] at h1; cases h1
    · rw [h0] at h1
      simp only [Option.some.injEq, Prod.mk.injEq] at h1
      omega
theorem PackF.behind (h : PackF pk) (hs : s.size ≤ 2000) (c : UInt8) : upC (pk s ++ ⟨#[c]⟩) (s.size : Int) = 120 := by
  obtain ⟨l, h1, _⟩ := h.back s (by omega)
  rcases ps_pre (pre_app (pk s) ⟨#[c]⟩) (by rw [ByteArray.size_append]; show _ < _ + 1; omega) h1 with h0 | ⟨l3, t3, h0, h4⟩
  · exact (up_none (by omega) h0).2
  · exact (up_other (by omega) h0 (by omega)).2
theorem PackF.some (h : PackF pk) (hs : s.size ≤ 2000) : 0 < (pk s).size := by
  obtain ⟨l, h1, _⟩ := h.back s (by omega)
  apply Nat.pos_of_ne_zero
  intro e
  rw [ps, pq_end (by omega)] at h1
  cases h1
end
theorem cv_one (w : World) (c : UInt8) : (convert 58 9 (.slice (some ⟨w.heap.size, 0, none⟩) 1 1)).run Tryd.prog (w.alloc (.cells #[.int .u8 (c.toNat : Int)] 5)) = .ok (.string ⟨#[c]⟩) (w.alloc (.cells #[.int .u8 (c.toNat : Int)] 5)) := by
  refine run_convert_bytes_back _ 58 9 5 ⟨w.heap.size, 0, none⟩ 1 [c] Tryd.underlying58 Tryd.underlying5 Tryd.underlying9 (fun j hj => ?_)
  have hj0 : j = 0 := by simp at hj; exact hj
  subst hj0
  rw [Addr.add_mid, Nat.zero_add, cell_of_row _ _ _ _ _ _ (heap_alloc_new w _)]
  rfl
theorem sl_to {s : ByteArray} {a : Nat} (h1 : a ≤ s.size) (w : World) : (Instr.slice 9 (.string s) none (some (.int .i64 (a : Int))) none).run Tryd.prog w = .ok (.string (s.extract 0 a)) w := by
  have c1 : (a : Int) ≤ (s.size : Int) := by omega
  simp [go_sem, Tryd.underlying9, c1]
theorem add_run {a b c : ByteArray} (h : a ++ b = c) (hz : a.size + b.size ≤ 9223372036854775807) (w : World) : (Op.stringOp .add a b).run Tryd.prog w = .ok (.string c) w := by
  rw [run_string_add_sum w a b hz, h]
theorem add_run2 {a b c : ByteArray} (h : a ++ b = c) (hz : a.size + b.size ≤ 9223372036854775807) (w : World) : (binOp .add 9 (.string a) (.string b)).run Tryd.prog w = .ok (.string c) w := by
  rw [binOp_string_add, add_run h hz]
section
variable {K : World → Prop} {pk : ByteArray → ByteArray}
end
end Go.Proofs.YtcidfkkgpehodaaDoor

namespace Go.Proofs.YtcidfkkgpehodaaDoor
/-! ### What is repeated -/
/-- Four bytes are the same. -/
def s4 (s : ByteArray) (j i : Nat) : Prop := bt s j = bt s i ∧ bt s (j + 1) = bt s (i + 1) ∧ bt s (j + 2) = bt s (i + 2) ∧ bt s (j + 3) = bt s (i + 3)
instance (s : ByteArray) (j i : Nat) : Decidable (s4 s j i) := by unfold s4; infer_instance
/-- The last place ahead of k that has the four bytes of i. -/
def pvG (s : ByteArray) (i : Nat) : Nat → Option Nat
  | 0 => none
  | j + 1 => if s4 s j i then some j else pvG s i j
def pv (s : ByteArray) (i : Nat) : Option Nat := if i + 4 ≤ s.size then pvG s i i else none
/-- How many bytes are the same. -/
def smG (s : ByteArray) (j i : Nat) : Nat → Nat → Nat
  | 0, n => n
  | f + 1, n => if i + n < s.size ∧ bt s (j + n) = bt s (i + n) then smG s j i f (n + 1) else n
def sm (s : ByteArray) (j i : Nat) : Nat := smG s j i (s.size - i) 0
/-- The longest repeat from a place on. -/
def loG (s : ByteArray) (i : Nat) : Nat → Option Nat → Nat → Nat → Nat × Nat
  | 0, _, d, l => (d, l)
  | _ + 1, none, d, l => (d, l)
  | t + 1, some f, d, l => if i - f ≤ 65535 then (if l < sm s f i then loG s i t (pv s f) (i - f) (sm s f i) else loG s i t (pv s f) d l) else (d, l)
def lo (s : ByteArray) (i : Nat) : Nat × Nat := loG s i 64 (pv s i) 0 0
/-- The first repeat from a place on, but for one behind whose first byte a longer one begins. -/
def nxG (s : ByteArray) : Nat → Nat → Nat × Nat → Nat × Nat × Nat
  | 0, i, r => (i, r)
  | f + 1, i, r => if r.2 < 32 ∧ i < s.size then (if 0 < r.2 ∧ (lo s (i + 1)).2 ≤ r.2 then (i, r) else nxG s f (i + 1) (lo s (i + 1))) else (i, r)
def nx (s : ByteArray) (i : Nat) : Nat × Nat × Nat := nxG s (s.size - i) i (lo s i)
/-- The sequences from a place on. -/
def seG (s : ByteArray) : Nat → Nat → List SQ
  | 0, i => [⟨s.extract i s.size, 0, 0⟩]
  | f + 1, i => if 0 < (nx s i).2.2 then ⟨s.extract i (nx s i).1, (nx s i).2.1, (nx s i).2.2⟩ :: seG s f ((nx s i).1 + (nx s i).2.2) else [⟨s.extract i s.size, 0, 0⟩]
/-! ### How they are written -/
def adS (n : Nat) : List UInt8 := if n < 15 then [] else List.replicate ((n - 15) / 255) 255 ++ [UInt8.ofNat ((n - 15) % 255)]
def hd1 (a b : Nat) : UInt8 := UInt8.ofNat (min a 15 * 16 + min b 15)
def enS (q : SQ) : List UInt8 := hd1 q.lit.size (q.long - 4) :: (adS q.lit.size ++ q.lit.data.toList ++ if q.long = 0 then [] else [UInt8.ofNat (q.dist % 256), UInt8.ofNat (q.dist / 256)] ++ adS (q.long - 4))
def enL (l : List SQ) : List UInt8 := l.flatMap enS
def pkB (s : ByteArray) : ByteArray := ⟨(enL (seG s s.size 0)).toArray⟩

section
variable {s : ByteArray} {i j k : Nat}
theorem s4.trans (h : s4 s i j) (h2 : s4 s j k) : s4 s i k := ⟨h.1.trans h2.1, h.2.1.trans h2.2.1, h.2.2.1.trans h2.2.2.1, h.2.2.2.trans h2.2.2.2⟩
theorem s4.symm (h : s4 s i j) : s4 s j i := ⟨h.1.symm, h.2.1.symm, h.2.2.1.symm, h.2.2.2.symm⟩
theorem pvG_some : ∀ {k j : Nat}, pvG s i k = some j → j < k ∧ s4 s j i
  | 0, _, h => by cases h
  | k + 1, j, h => by
    rw [pvG] at h
    split at h
    · simp only [Option.some.injEq] at h
      subst h
      exact ⟨by omega, by assumption⟩
    · have := pvG_some h
      exact ⟨by omega, this.2⟩
theorem pvG_max : ∀ {k m : Nat}, m < k → s4 s m i → ∃ j, pvG s i k = some j ∧ m ≤ j ∧ j < k ∧ s4 s j i
  | 0, _, h, _ => by omega
  | k + 1, m, h, h4 => by
    rw [pvG]
    by_cases c : s4 s k i
    · rw [if_pos c]
      exact ⟨k, rfl, by omega, by omega, c⟩
    · rw [if_neg c]
      have hne : m ≠ k := fun e => c (e ▸ h4)
      obtain ⟨j, h1, h2, h3, h5⟩ := pvG_max (k := k) (m := m) (by omega) h4
      exact ⟨j, h1, h2, by omega, h5⟩
theorem pv_some (h : pv s i = some j) : j < i ∧ s4 s j i ∧ i + 4 ≤ s.size := by
  rw [pv] at h
  split at h
  · have := pvG_some h
    exact ⟨this.1, this.2, by assumption⟩
  · cases h
theorem pv_few (h : ¬ i + 4 ≤ s.size) : pv s i = none := if_neg h
theorem smG_le : ∀ (f n : Nat), n ≤ smG s j i f n ∧ smG s j i f n ≤ n + f
  | 0, n => ⟨Nat.le_refl _, Nat.le_refl _⟩
  | f + 1, n => by
    rw [smG]
    split
    · have := smG_le f (n + 1)
      omega
    · omega
theorem smG_same : ∀ (f n m : Nat), n ≤ m → m < smG s j i f n → i + m < s.size ∧ bt s (j + m) = bt s (i + m)
  | 0, n, m, h, h2 => by rw [smG] at h2; omega
  | f + 1, n, m, h, h2 => by
    rw [smG] at h2
    split at h2
    · by_cases e : m = n
      · subst e; assumption
      · exact smG_same f (n + 1) m (by omega) h2
    · omega
theorem smG_all : ∀ (f n : Nat), i + n + f ≤ s.size → (∀ m, n ≤ m → i + m < s.size → bt s (j + m) = bt s (i + m)) → smG s j i f n = n + f
  | 0, n, _, _ => rfl
  | f + 1, n, h, h2 => by
    rw [smG, if_pos ⟨by omega, h2 n (Nat.le_refl _) (by omega)⟩, smG_all f (n + 1) (by omega) (fun m h1 => h2 m (by omega))]
    omega
theorem sm_le : sm s j i ≤ s.size - i := by have := (smG_le (s := s) (j := j) (i := i) (s.size - i) 0).2; rw [sm]; omega
theorem sm_same {m : Nat} (h : m < sm s j i) : i + m < s.size ∧ bt s (j + m) = bt s (i + m) := smG_same _ 0 m (Nat.zero_le _) h
theorem sm_all (h : ∀ m, i + m < s.size → bt s (j + m) = bt s (i + m)) : sm s j i = s.size - i := by
  by_cases c : i ≤ s.size
  · rw [sm, smG_all _ 0 (by omega) (fun m _ => h m)]; omega
  · rw [sm, show s.size - i = 0 by omega]; rfl
theorem sm_four (h : s4 s j i) (hi : i + 4 ≤ s.size) : 4 ≤ sm s j i := by
  rw [sm, show s.size - i = (s.size - i - 4) + 1 + 1 + 1 + 1 by omega, smG, if_pos ⟨by omega, h.1⟩, smG, if_pos ⟨by omega, h.2.1⟩, smG, if_pos ⟨by omega, h.2.2.1⟩, smG, if_pos ⟨by omega, h.2.2.2⟩]
  exact (smG_le _ 4).1
/-- A repeat. -/
def RP (s : ByteArray) (i d l : Nat) : Prop := 4 ≤ l ∧ 1 ≤ d ∧ d ≤ 65535 ∧ d ≤ i ∧ i + l ≤ s.size ∧ ∀ m, m < l → bt s (i + m) = bt s (i + m - d)
theorem loG_ok : ∀ (t : Nat) (o : Option Nat) (d l : Nat), (∀ f, o = some f → f < i ∧ s4 s f i ∧ i + 4 ≤ s.size) → (l = 0 ∧ d = 0 ∨ RP s i d l) → ((loG s i t o d l).2 = 0 ∧ (loG s i t o d l).1 = 0) ∨ RP s i (loG s i t o d l).1 (loG s i t o d l).2
  | 0, _, d, l, _, h => h
  | t + 1, none, d, l, _, h => h
  | t + 1, some f, d, l, ho, h => by
    obtain ⟨h1, h2, h3⟩ := ho f rfl
    have hn : ∀ g, pv s f = some g → g < i ∧ s4 s g i ∧ i + 4 ≤ s.size := fun g hg => by
      have := pv_some hg
      exact ⟨by omega, this.2.1.trans h2, h3⟩
    rw [loG]
    by_cases c1 : i - f ≤ 65535
    · rw [if_pos c1]
      by_cases c2 : l < sm s f i
      · rw [if_pos c2]
        refine loG_ok t _ _ _ hn (.inr ?_)
        have h4 := sm_four h2 h3
        refine ⟨h4, by omega, c1, by omega, by have := sm_le (s := s) (j := f) (i := i); omega, fun m hm => ?_⟩
        rw [show i + m - (i - f) = f + m by omega]
        exact (sm_same hm).2.symm
      · rw [if_neg c2]
        exact loG_ok t _ _ _ hn h
    · rw [if_neg c1]
      exact h
theorem lo_ok (s : ByteArray) (i : Nat) : ((lo s i).2 = 0 ∧ (lo s i).1 = 0) ∨ RP s i (lo s i).1 (lo s i).2 := loG_ok 64 _ 0 0 (fun f h => by have := pv_some h; exact ⟨this.1, this.2.1, this.2.2⟩) (.inl ⟨rfl, rfl⟩)
theorem lo_le (s : ByteArray) (i : Nat) : (lo s i).2 ≤ s.size - i := by
  rcases lo_ok s i with h | h
  · omega
  · have := h.2.2.2.2.1; omega
theorem nxG_is : ∀ (f i : Nat), nxG s f i (lo s i) = ((nxG s f i (lo s i)).1, lo s (nxG s f i (lo s i)).1) ∧ i ≤ (nxG s f i (lo s i)).1 ∧ (nxG s f i (lo s i)).1 ≤ max i s.size
  | 0, i => ⟨rfl, Nat.le_refl _, Nat.le_max_left _ _⟩
  | f + 1, i => by
    rw [nxG]
    split
    · split
      · exact ⟨rfl, Nat.le_refl _, Nat.le_max_left _ _⟩
      · obtain ⟨h1, h2, h3⟩ := nxG_is f (i + 1)
        exact ⟨h1, by omega, by omega⟩
    · exact ⟨rfl, Nat.le_refl _, Nat.le_max_left _ _⟩
theorem nx_is (s : ByteArray) (i : Nat) : nx s i = ((nx s i).1, lo s (nx s i).1) ∧ i ≤ (nx s i).1 ∧ (nx s i).1 ≤ max i s.size := nxG_is _ i
theorem nx_lo (s : ByteArray) (i : Nat) : (nx s i).2 = lo s (nx s i).1 := congrArg (·.2) (nx_is s i).1
theorem nx_rp (h : 0 < (nx s i).2.2) : RP s (nx s i).1 (nx s i).2.1 (nx s i).2.2 := by
  rw [nx_lo] at h ⊢
  rcases lo_ok s (nx s i).1 with h2 | h2
  · omega
  · exact h2
/-- Sequences that can be written, n bytes having been unpacked. -/
def WS : Nat → List SQ → Prop
  | _, [] => False
  | n, q :: r => (q.dist = 0 ∧ q.long = 0 ∧ r = []) ∨ (1 ≤ q.dist ∧ q.dist ≤ 65535 ∧ q.dist ≤ n + q.lit.size ∧ 4 ≤ q.long ∧ WS (n + q.lit.size + q.long) r)
def tot (l : List SQ) : Nat := (l.map fun q => q.lit.size + q.long).sum
theorem seG_ws : ∀ (f i : Nat), i ≤ s.size → WS i (seG s f i) ∧ i + tot (seG s f i) = s.size
  | 0, i, h => ⟨.inl ⟨rfl, rfl, rfl⟩, by simp [seG, tot]; omega⟩
  | f + 1, i, h => by
    rw [seG]
    by_cases c : 0 < (nx s i).2.2
    · rw [if_pos c]
      obtain ⟨r1, r2, r3, r4, r5, _⟩ := nx_rp c
      obtain ⟨_, n2, n3⟩ := nx_is s i
      have hz : (s.extract i (nx s i).1).size = (nx s i).1 - i := by rw [ByteArray.size_extract]; omega
      obtain ⟨g1, g2⟩ := seG_ws f ((nx s i).1 + (nx s i).2.2) r5
      refine ⟨.inr ⟨r2, r3, by show (nx s i).2.1 ≤ i + (s.extract i (nx s i).1).size; rw [hz]; omega, r1, ?_⟩, ?_⟩
      · show WS (i + (s.extract i (nx s i).1).size + (nx s i).2.2) _
        rw [hz, show i + ((nx s i).1 - i) + (nx s i).2.2 = (nx s i).1 + (nx s i).2.2 by omega]
        exact g1
      · rw [tot, List.map_cons, List.sum_cons]
        show i + ((s.extract i (nx s i).1).size + (nx s i).2.2 + _) = _
        rw [hz]
        rw [tot] at g2
        omega
    · rw [if_neg c]
      exact ⟨.inl ⟨rfl, rfl, rfl⟩, by simp [tot]; omega⟩
/-! ### What is unpacked -/
theorem rp_take {s : List UInt8} {d : Nat} : ∀ (k i : Nat), i + k ≤ s.length → 1 ≤ d → d ≤ i → (∀ m, m < k → s.getD (i + m) 0 = s.getD (i + m - d) 0) → rp d k (s.take i) = s.take (i + k)
  | 0, i, _, _, _, _ => rfl
  | k + 1, i, h, h1, h2, h3 => by
    rw [rp]
    have hl : (s.take i).length = i := by rw [List.length_take]; omega
    have h30 : s.getD i 0 = s.getD (i - d) 0 := h3 0 (by omega)
    have e : s.take i ++ [(s.take i).getD ((s.take i).length - d) 0] = s.take (i + 1) := by
      rw [hl, List.take_add_one]
      congr 1
      rw [List.getD_eq_getElem?_getD, List.getElem?_take, if_pos (by omega), ← List.getD_eq_getElem?_getD, ← h30, List.getD_eq_getElem?_getD, List.getElem?_eq_getElem (by omega)]
      rfl
    rw [e, rp_take k (i + 1) (by omega) h1 (by omega) (fun m hm => by
      have := h3 (m + 1) (by omega)
      rw [show i + (m + 1) = i + 1 + m by omega] at this
      exact this)]
    rw [show i + 1 + k = i + (k + 1) by omega]
theorem bt_lst (s : ByteArray) (i : Nat) : (s.data.toList.getD i 0).toNat = bt s i := by
  rw [bt, List.getD_eq_getElem?_getD]
  split
  · rename_i h
    rw [List.getElem?_eq_getElem (by simpa using h)]
    rfl
  · rename_i h
    rw [List.getElem?_eq_none (by simpa using h)]
    rfl
theorem ext_list (s : ByteArray) (i j : Nat) (h1 : i ≤ j) : s.data.toList.take i ++ (s.extract i j).data.toList = s.data.toList.take j := by
  rw [ByteArray.data_extract, Array.toList_extract]
  show _ ++ List.take (j - i) (List.drop i _) = _
  rw [← List.drop_take]
  conv => rhs; rw [← List.take_append_drop i (List.take j s.data.toList)]
  rw [List.take_take, Nat.min_eq_left h1]
theorem seG_opn : ∀ (f i : Nat), i ≤ s.size → opn (seG s f i) (s.data.toList.take i) = s.data.toList
  | 0, i, h => by
    rw [seG, opn, opn, rp, ext_list s i s.size h]
    exact List.take_of_length_le (by simp)
  | f + 1, i, h => by
    rw [seG]
    by_cases c : 0 < (nx s i).2.2
    · rw [if_pos c]
      obtain ⟨r1, r2, r3, r4, r5, r6⟩ := nx_rp c
      obtain ⟨_, n2, n3⟩ := nx_is s i
      rw [opn]
      show opn _ (rp (nx s i).2.1 (nx s i).2.2 (_ ++ (s.extract i (nx s i).1).data.toList)) = _
      rw [ext_list s i _ n2, rp_take _ _ (by simp; omega) r2 r4 (fun m hm => by
        have := r6 m hm
        rw [← bt_lst, ← bt_lst] at this
        exact UInt8.toNat_inj.1 this)]
      exact seG_opn f _ r5
    · rw [if_neg c, opn, opn, rp, ext_list s i s.size h]
      exact List.take_of_length_le (by simp)
end
end Go.Proofs.YtcidfkkgpehodaaDoor

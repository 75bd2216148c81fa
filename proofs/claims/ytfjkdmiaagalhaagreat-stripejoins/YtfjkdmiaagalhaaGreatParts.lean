/-
  A map from numbers to numbers that a call has made.
-/
import Derived.Test.YtfjkdmiaagalhaaGreatRef6
import Derived.Maps.OwnSet
namespace Go.Proofs.YtfjkdmiaagalhaaGreat
open Go.RowKit Go.Lib Go.Maps

theorem mlaw : Keyed Tryz.prog 3 := int_keyed Tryz.underlying3
theorem mzero (w : World) : (zeroValue 3).run Tryz.prog w = .ok (.int .i64 0) w := by kernel_rfl
theorem wf_of {x : Int} (h1 : -9223372036854775808 ≤ x) (h2 : x ≤ 9223372036854775807) : (Lit.int .i64 x).wf = true := WalkArith.wf_i64 ⟨h1, h2⟩
/-- At block b lies a map, of at most n entries, from x to f x. -/
def MP (w : World) (b n : Nat) (f : Int → Option Nat) : Prop :=
  ∃ D : DataW Unit, w.ownsMap Tryz.prog 3 (plainElem Tryz.prog 3) b n D ∧ (∀ x, has D (.int .i64 x) = (f x).isSome) ∧ ∀ x i, f x = some i → ∀ z, D.atKey (.int .i64 x) z = .lit (.int .i64 (i : Int))
section
variable {w w' : World} {b n : Nat} {f : Int → Option Nat}
theorem MP.made (w : World) : MP (w.alloc (.map #[] 0)) w.heap.size 0 (fun _ => none) :=
  ⟨_, World.ownsMap_made w _ _ _, fun x => by simp [has], fun x i h => by cases h⟩
theorem MP.lt (h : MP w b n f) : b < w.heap.size := by obtain ⟨D, h, _⟩ := h; exact h.lt
theorem MP.kept {row : Option Nat} (h : MP w b n f) (hg : w.grownBy w' row) (hne : some b ≠ row) : MP w' b n f := by
  obtain ⟨D, h1, h2⟩ := h
  exact ⟨D, h1.kept hg hne, h2⟩
theorem MP.below (h : MP w b n f) (hb : Below w.heap.size w w') : MP w' b n f := h.kept (gb_below hb none) (by simp)
theorem MP.look (h : MP w b n f) {x : Int} (h1 : -9223372036854775808 ≤ x) (h2 : x ≤ 9223372036854775807) :
    (Instr.lookup 95 (.map (some b)) (.int .i64 x) true).run Tryz.prog w = .ok (.tuple #[.int .i64 (((f x).getD 0 : Nat) : Int), .bool (f x).isSome]) w := by
  obtain ⟨D, hD, hh, ha⟩ := h
  obtain ⟨v, ps, hr, hv⟩ := hD.look_ok mlaw Tryz.underlying95 (mzero w) (plainElem_int Tryz.underlying3 (by decide)) (keyOf_int_mk Tryz.underlying3 (wf_of h1 h2))
  obtain ⟨a, rfl, e, _⟩ := plainElem_int_inv Tryz.underlying3 hv
  rw [hr, hh x]
  simp only [Prod.mk.injEq] at e
  cases hf : f x with
  | none =>
    have := atKey_of_not_has (D := D) (k := .int .i64 x) (by rw [hh x, hf]; rfl) (.lit (.int .i64 0))
    rw [this] at e
    simp at e
    rw [← e.1]
    rfl
  | some i =>
    rw [ha x i hf] at e
    simp at e
    rw [← e.1]
    rfl
theorem MP.update (h : MP w b n f) (hn : n ≤ 100000) {x : Int} (h1 : -9223372036854775808 ≤ x) (h2 : x ≤ 9223372036854775807) {i : Nat} (hi : i ≤ 100000) :
    ∃ w', (Instr.mapUpdate 95 (.map (some b)) (.int .i64 x) (.int .i64 (i : Int))).run Tryz.prog w = .ok () w' ∧ MP w' b (n + 1) (fun y => if y = x then some i else f y) ∧ w.grownBy w' (some b) := by
  obtain ⟨D, hD, hh, ha⟩ := h
  obtain ⟨w', hr, hD', hg⟩ := hD.update mlaw Tryz.underlying95 (by unfold maxLen; omega) (keyOf_int_mk Tryz.underlying3 (wf_of h1 h2)) (plainElem_int Tryz.underlying3 (a := (i : Int)) (wf_of (by omega) (by omega)))
  have hM := hD.isMap
  have hkl : WideAt.IsKeyLit (.int .i64 x) := by simp [WideAt.IsKeyLit]
  refine ⟨w', hr, ⟨_, hD', fun y => ?_, fun y j hy z => ?_⟩, hg⟩
  · by_cases e : y = x
    · subst e
      simp only [if_true, Option.isSome_some]
      exact has_true_of_atKey (fun z => atKey_put_same hM hkl _ z)
    · simp only [if_neg e]
      rw [has_put_other (by intro h; cases h; exact e rfl), hh y]
  · by_cases e : y = x
    · subst e
      simp only [if_true, Option.some.injEq] at hy
      subst hy
      exact atKey_put_same hM hkl _ z
    · simp only [if_neg e] at hy
      rw [atKey_put_other (by intro h; cases h; exact e rfl)]
      exact ha y j hy z
end
end Go.Proofs.YtfjkdmiaagalhaaGreat

namespace Go.Proofs.YtfjkdmiaagalhaaGreat
open Go.RowKit Go.Lib

theorem Tryz.infoPart : (Tryz.prog.info? 35).map (fun i => (i.zero, i.size, i.bytes)) = some (some (.agg #[.int .i64 0, .string ⟨#[]⟩]), 2, 24) := by kernel_rfl
def pcells (I : Nat → Int) (X : Nat → ByteArray) : Nat → List Value
  | 0 => []
  | n + 1 => pcells I X n ++ [.int .i64 (I n), .string (X n)]
section
variable {I I' : Nat → Int} {X X' : Nat → ByteArray}
theorem pcells_length (I : Nat → Int) (X : Nat → ByteArray) : ∀ n, (pcells I X n).length = n * 2
  | 0 => rfl
  | n + 1 => by rw [pcells, List.length_append, pcells_length I X n]; simp; omega
theorem pcells_get0 {i : Nat} : ∀ {n}, i < n → (pcells I X n)[i * 2]? = some (.int .i64 (I i))
  | 0, h => by omega
  | n + 1, h => by
    rw [pcells]
    by_cases e : i < n
    · rw [List.getElem?_append_left (by rw [pcells_length]; omega), pcells_get0 e]
    · obtain rfl : i = n := by omega
      rw [List.getElem?_append_right (by rw [pcells_length]; omega), pcells_length, Nat.sub_self]
      rfl
theorem pcells_get1 {i : Nat} : ∀ {n}, i < n → (pcells I X n)[i * 2 + 1]? = some (.string (X i))
  | 0, h => by omega
  | n + 1, h => by
    rw [pcells]
    by_cases e : i < n
    · rw [List.getElem?_append_left (by rw [pcells_length]; omega), pcells_get1 e]
    · obtain rfl : i = n := by omega
      rw [List.getElem?_append_right (by rw [pcells_length]; omega), pcells_length, show i * 2 + 1 - i * 2 = 1 by omega]
      rfl
theorem pcells_congr : ∀ {n}, (∀ i, i < n → I i = I' i ∧ X i = X' i) → pcells I X n = pcells I' X' n
  | 0, _ => rfl
  | n + 1, h => by rw [pcells, pcells, pcells_congr (fun i hi => h i (by omega)), (h n (by omega)).1, (h n (by omega)).2]
theorem pcells_one : ∀ n, ∀ u ∈ pcells I X n, u.oneCell' = true
  | 0, u, h => by simp [pcells] at h
  | n + 1, u, h => by
    rw [pcells, List.mem_append] at h
    rcases h with h | h
    · exact pcells_one n u h
    · simp at h
      rcases h with rfl | rfl <;> rfl
end
/-- A list of n parts lies in memory. -/
def PX (w : World) (v : Value) (n : Nat) (I : Nat → Int) (X : Nat → ByteArray) : Prop :=
  ∃ a c, v = .slice a n c ∧ (n = 0 ∨ ∃ bl off, a = some ⟨bl, off, none⟩ ∧ bl < w.heap.size ∧ ∀ i, i < n → w.cell? ⟨bl, off + i * 2, none⟩ = some (.int .i64 (I i)) ∧ w.cell? ⟨bl, off + i * 2 + 1, none⟩ = some (.string (X i)))
structure IP (B : Nat) (v : Value) (n : Nat) (I : Nat → Int) (X : Nat → ByteArray) (w : World) : Prop where
  own : w.ownsRow B 35 2 v n (pcells I X n)
section
variable {B n : Nat} {v : Value} {I I' : Nat → Int} {X X' : Nat → ByteArray} {w w' : World}
theorem PX.below (h : PX w v n I X) {b : Nat} (hb : Below b w w') (hB : w.heap.size ≤ b) : PX w' v n I X := by
  obtain ⟨a, c, e, h0 | ⟨bl, off, ea, hl, hc⟩⟩ := h
  · exact ⟨a, c, e, .inl h0⟩
  · refine ⟨a, c, e, .inr ⟨bl, off, ea, Nat.lt_of_lt_of_le hl hb.size, fun i hi => ⟨?_, ?_⟩⟩⟩
    · exact (hb.cell (p := ⟨bl, off + i * 2, none⟩) (Nat.lt_of_lt_of_le hl hB)).trans (hc i hi).1
    · exact (hb.cell (p := ⟨bl, off + i * 2 + 1, none⟩) (Nat.lt_of_lt_of_le hl hB)).trans (hc i hi).2
theorem PX.congr (h : PX w v n I X) (e : ∀ i, i < n → I i = I' i ∧ X i = X' i) : PX w v n I' X' := by
  obtain ⟨a, c, ev, h0 | ⟨bl, off, ea, hl, hc⟩⟩ := h
  · exact ⟨a, c, ev, .inl h0⟩
  · exact ⟨a, c, ev, .inr ⟨bl, off, ea, hl, fun i hi => by rw [← (e i hi).1, ← (e i hi).2]; exact hc i hi⟩⟩
theorem IP.nil (B : Nat) (w : World) (I : Nat → Int) (X : Nat → ByteArray) : IP B (.slice none 0 0) 0 I X w := ⟨World.ownsRow_nil w B 35 2⟩
theorem IP.px (h : IP B v n I X w) : PX w v n I X := by
  obtain ⟨h1, ⟨rfl, h2⟩ | ⟨g, cap, cur, rfl, hB, hg, hn, _, hs, ht⟩⟩ := h.own
  · subst h2; exact ⟨_, _, rfl, .inl rfl⟩
  · refine ⟨_, cap, rfl, .inr ⟨g, 0, rfl, lt_of_block hg, fun j hj => ?_⟩⟩
    have e0 := pcells_get0 (I := I) (X := X) hj
    have e1 := pcells_get1 (I := I) (X := X) hj
    rw [← ht, List.getElem?_take, if_pos (by omega)] at e0 e1
    rw [Nat.zero_add, cell_of_row w g _ _ _ _ hg, cell_of_row w g _ _ _ _ hg]
    exact ⟨by simpa using e0, by simpa using e1⟩
theorem IP.shp (h : IP B v n I X w) : ∃ a c, v = .slice a n c := by
  obtain ⟨a, c, e, _⟩ := h.px
  exact ⟨a, c, e⟩
theorem IP.keep (h : IP B v n I X w) (hb : Below w.heap.size w w') : IP B v n I X w' := by
  refine ⟨h.own.1, ?_⟩
  rcases h.own.2 with h2 | ⟨g, cap, cur, e, hB, hg, r⟩
  · exact .inl h2
  · exact .inr ⟨g, cap, cur, e, hB, (hb.block g (lt_of_block hg)).trans hg, r⟩
theorem IP.grown (h : IP B v n I X w) {b : Nat} (hb : w.grownBy w' (some b)) (hv : v.ownBlock ≠ some b) : IP B v n I X w' := by
  refine ⟨h.own.1, ?_⟩
  rcases h.own.2 with h2 | ⟨g, cap, cur, e, hB, hg, r⟩
  · exact .inl h2
  · refine .inr ⟨g, cap, cur, e, hB, ?_, r⟩
    refine (hb.block g (lt_of_block hg) ?_).trans hg
    intro e'
    apply hv
    rw [e, ← e']
    rfl
theorem IP.ne_map (h : IP B v n I X w) {b k : Nat} {f : Int → Option Nat} (hm : MP w b k f) : v.ownBlock ≠ some b := by
  rcases h.own.2 with ⟨rfl, _⟩ | ⟨g, cap, cur, e, hB, hg, r⟩
  · simp [Value.ownBlock]
  · obtain ⟨D, hD, _⟩ := hm
    intro e2
    rw [e] at e2
    simp [Value.ownBlock] at e2
    subst e2
    obtain ⟨es, it, hb, _⟩ := hD
    rw [hg] at hb
    cases hb
theorem IP.lt (h : IP B v n I X w) (b : Nat) (hb : v.ownBlock = some b) : B ≤ b ∧ b < w.heap.size := by
  obtain ⟨h1, ⟨rfl, h2⟩ | ⟨g, cap, cur, rfl, hB, hg, _⟩⟩ := h.own
  · simp [Value.ownBlock] at hb
  · simp only [Value.ownBlock, Option.some.injEq] at hb
    subst hb
    exact ⟨hB, lt_of_block hg⟩
theorem IP.congr (h : IP B v n I X w) (e : ∀ i, i < n → I i = I' i ∧ X i = X' i) : IP B v n I' X' w := ⟨by rw [← pcells_congr e]; exact h.own⟩
/-- One part more. -/
theorem IP.one (h : IP B v n I X w) (x : Int) (y : ByteArray) (hb : n + 1 ≤ 100000) (hB : B ≤ w.heap.size) :
    ∃ a' c' w', (Builtin.append_ #[23, 23] 23 #[v, .slice (some ⟨w.heap.size, 0, none⟩) 1 1]).run Tryz.prog (w.alloc (.cells #[.int .i64 x, .string y] 35)) = .ok (.slice a' (n + 1) c') w' ∧ IP B (.slice a' (n + 1) c') (n + 1) (fun t => if t < n then I t else x) (fun t => if t < n then X t else y) w' ∧ (w.alloc (.cells #[.int .i64 x, .string y] 35)).grownBy w' v.ownBlock := by
  have hal : Below w.heap.size w (w.alloc (.cells #[.int .i64 x, .string y] 35)) := below_alloc (Below.refl _ _) _
  have h' := h.keep hal
  obtain ⟨i0, hi, hz0, hz1, hz2⟩ := info_parts Tryz.infoPart
  obtain ⟨v', w', h1, h2, h3, _⟩ := run_append_own_at (P := Tryz.prog) _ B 23 23 35 i0 (.agg #[.int .i64 0, .string ⟨#[]⟩]) 2 24 Tryz.underlying23 hi hz0 hz1 hz2 rfl (by decide) v n (pcells I X n) h'.own ⟨w.heap.size, 0, none⟩ 1 1 [.int .i64 x, .string y] rfl (fun j u hj => by
      rw [Addr.add_mid, Nat.zero_add, cell_of_row _ _ _ _ _ _ (heap_alloc_new w _)]
      simpa using hj) (by simp [Value.oneCell']) (by unfold maxLen; omega) (by omega) (by simp; omega)
  have e : pcells I X n ++ [.int .i64 x, .string y] = pcells (fun t => if t < n then I t else x) (fun t => if t < n then X t else y) (n + 1) := by
    have e1 : pcells I X n = pcells (fun t => if t < n then I t else x) (fun t => if t < n then X t else y) n := pcells_congr fun i hi => ⟨(if_pos hi).symm, (if_pos hi).symm⟩
    have e2 : (if n < n then I n else x) = x := if_neg (by omega)
    have e3 : (if n < n then X n else y) = y := if_neg (by omega)
    rw [pcells, ← e1, e2, e3]
  have hI : IP B v' (n + 1) _ _ w' := ⟨by rw [← e]; exact h2⟩
  obtain ⟨a', c', rfl⟩ := hI.shp
  exact ⟨a', c', w', h1, hI, h3⟩
end
end Go.Proofs.YtfjkdmiaagalhaaGreat

/-
  Matrices as they lie in memory; the contracts of the small functions.
-/
import Derived.Test.YtfjkdmiaagalhaaGreatReckon2
import Derived.Test.YtfjkdmiaagalhaaGreatLin
import Derived.OwnWalk
import Derived.Deep.OwnRows
import Derived.Laws.CopyOwn
namespace Go.Proofs.YtfjkdmiaagalhaaGreat
open Go.RowKit Go.Lib

theorem Tryz.info3 : (Tryz.prog.info? 3).map (fun i => (i.zero, i.size, i.bytes)) = some (some (.int .i64 0), 1, 8) := by kernel_rfl
theorem Tryz.info48 : (Tryz.prog.info? 48).map (fun i => (i.zero, i.size, i.bytes)) = some (some (.slice none 0 0), 1, 24) := by kernel_rfl

def isSd (n : Int) : Bool := decide (1 ≤ n) && decide (n ≤ 255)
set_option maxRecDepth 100000 in
theorem isSide_any (n : Int) (w : World) : Calls Tryz.prog 54 #[.int .i64 n] w fun e w' => e = .returned (.bool (isSd n)) ∧ w' = w := by
  by_cases h : 1 ≤ n
  · rw [isSd, show decide (1 ≤ n) = true from decide_eq_true h, Bool.true_and]
    go_enter Tryz.func54, Tryz.ntmps54
    go_wp2
    go_ret
    exact ⟨rfl, rfl⟩
  · rw [isSd, show decide (1 ≤ n) = false from decide_eq_false h, Bool.false_and]
    go_enter Tryz.func54, Tryz.ntmps54
    go_wp2
    go_ret
    exact ⟨rfl, rfl⟩

theorem hide {p : Prop} (h : p) : Hid p := h
/-- The members of a matrix, one behind the other, in a block of their own. -/
def kcell (a : K) : Value := .int .i64 ((a.v : Nat) : Int)
def kcells (n : Nat) (f : Nat → K) : List Value := (List.range n).map fun k => kcell (f k)
theorem kcells_length (n : Nat) (f : Nat → K) : (kcells n f).length = n := by simp [kcells]
theorem kcells_get {n i : Nat} (f : Nat → K) (h : i < n) : (kcells n f)[i]? = some (kcell (f i)) := by
  rw [kcells, List.getElem?_map, List.getElem?_range h]; rfl
theorem kcells_congr {n : Nat} {f g : Nat → K} (h : ∀ i, i < n → f i = g i) : kcells n f = kcells n g := by
  apply List.ext_getElem?
  intro i
  by_cases hi : i < n
  · rw [kcells_get f hi, kcells_get g hi, h i hi]
  · rw [List.getElem?_eq_none (by rw [kcells_length]; omega), List.getElem?_eq_none (by rw [kcells_length]; omega)]
theorem kcells_set {n i : Nat} (f : Nat → K) (x : K) : (kcells n f).set i (kcell x) = kcells n (fun k => if k = i then x else f k) := by
  apply List.ext_getElem?
  intro j
  rw [List.getElem?_set, kcells_length]
  by_cases hj : j < n
  · rw [kcells_get _ hj, kcells_get _ hj]
    by_cases e : i = j
    · subst e; rw [if_pos rfl, if_pos hj, if_pos rfl]
    · rw [if_neg e, if_neg (fun h => e h.symm)]
  · rw [List.getElem?_eq_none (by rw [kcells_length]; omega), List.getElem?_eq_none (by rw [kcells_length]; omega)]
    split
    · rw [if_neg (by omega)]
    · rfl
/-- A block whose first n cells are these. -/
def KB (w : World) (g n : Nat) (f : Nat → K) : Prop := ∃ Z : List Value, w.heap[g]? = some (.cells (kcells n f ++ Z).toArray 3 (0, 0))
section
variable {w w' : World} {g n : Nat} {f : Nat → K}
theorem KB.lt (h : KB w g n f) : g < w.heap.size := by obtain ⟨_, h⟩ := h; exact lt_of_block h
theorem KB.cell (h : KB w g n f) (i : Nat) (hi : i < n) : w.cell? ⟨g, i, none⟩ = some (.int .i64 (((f i).v : Nat) : Int)) := by
  obtain ⟨Z, h⟩ := h
  rw [cell_of_row w g i _ _ _ h, List.getElem?_toArray, List.getElem?_append_left (by rw [kcells_length]; exact hi), kcells_get f hi]; rfl
theorem KB.free (h : KB w g n f) (i : Nat) : w.frozen? ⟨g, i, none⟩ = false := by obtain ⟨Z, h⟩ := h; exact frozen_of_row w g i _ _ h
theorem KB.of_block (h : KB w g n f) (hb : w'.heap[g]? = w.heap[g]?) : KB w' g n f := by obtain ⟨Z, h⟩ := h; exact ⟨Z, hb.trans h⟩
theorem KB.congr (h : KB w g n f) {f' : Nat → K} (e : ∀ i, i < n → f i = f' i) : KB w g n f' := by
  obtain ⟨Z, h⟩ := h; exact ⟨Z, by rw [← kcells_congr e]; exact h⟩
theorem KB.set (h : KB w g n f) (i : Nat) (hi : i < n) (x : K) : KB (w.setCell ⟨g, i, none⟩ (.int .i64 ((x.v : Nat) : Int))) g n (fun k => if k = i then x else f k) := by
  obtain ⟨Z, h⟩ := h
  refine ⟨Z, ?_⟩
  rw [heap_set_list _ h, List.set_append_left _ _ (by rw [kcells_length]; exact hi)]
  rw [show Value.int .i64 ((x.v : Nat) : Int) = kcell x from rfl, kcells_set]
theorem KB.drewN (h : KB w g n f) (m : Nat) : KB (w.drewN m) g n f := h
end

/-- A list of numbers, to be read, that lies in no block f. -/
def NX (w : World) (f : Nat) (v : Value) (n : Nat) (Z : Nat → Int) : Prop :=
  ∃ a c, v = .slice a n c ∧ n ≤ c ∧ (n = 0 ∨ ∃ bl off, a = some ⟨bl, off, none⟩ ∧ bl < w.heap.size ∧ bl ≠ f ∧ ∀ j, j < n → w.cell? ⟨bl, off + j, none⟩ = some (.int .i64 (Z j)))
theorem NX.grown {w w' : World} {f n : Nat} {v : Value} {Z : Nat → Int} (h : NX w f v n Z) (hg : w.grownBy w' (some f)) : NX w' f v n Z := by
  obtain ⟨a, c, rfl, hc, h⟩ := h
  refine ⟨a, c, rfl, hc, ?_⟩
  rcases h with h | ⟨bl, off, rfl, hbl, hf, hc⟩
  · exact .inl h
  · exact .inr ⟨bl, off, rfl, Nat.lt_of_lt_of_le hbl hg.size, hf, fun i hi => (cell_congr (hg.block bl hbl (by simp; omega))).trans (hc i hi)⟩
theorem KB.nx {w : World} {f g n c : Nat} {F : Nat → K} (h : KB w g n F) (hc : n ≤ c) (hf : g ≠ f) : NX w f (.slice (some ⟨g, 0, none⟩) n c) n (fun k => (((F k).v : Nat) : Int)) :=
  ⟨_, c, rfl, hc, .inr ⟨g, 0, rfl, h.lt, hf, fun j hj => by rw [Nat.zero_add]; exact h.cell j hj⟩⟩

/-- A space at a block, over a field at another. -/
def SPB (w : World) (sb f : Nat) : Prop := w.heap[sb]? = some (.cells #[.pointer (some ⟨f, 0, none⟩)] 73 (0, 0))
structure SP (w : World) (sb f : Nat) : Prop where
  b : SPB w sb f
  fl : F w f
  ne : sb ≠ f
section
variable {w w' : World} {sb f : Nat}
theorem SPB.lt (h : SPB w sb f) : sb < w.heap.size := lt_of_block h
theorem SPB.cell (h : SPB w sb f) : w.cell? ⟨sb, 0, none⟩ = some (.pointer (some ⟨f, 0, none⟩)) := by rw [cell_of_row w sb 0 _ _ _ h]; rfl
theorem SPB.of_block (h : SPB w sb f) (hb : w'.heap[sb]? = w.heap[sb]?) : SPB w' sb f := hb.trans h
theorem SP.lt (h : SP w sb f) : sb < w.heap.size := h.b.lt
theorem SP.ltf (h : SP w sb f) : f < w.heap.size := h.fl.lt
/-- The field has gone on. -/
theorem SP.field (h : SP w sb f) (hg : w.grownBy w' (some f)) (hF : F w' f) : SP w' sb f := ⟨h.b.of_block (hg.block sb h.b.lt (by simp; exact h.ne)), hF, h.ne⟩
theorem SP.below (h : SP w sb f) {B : Nat} (hb : Below B w w') (hB : w.heap.size ≤ B) : SP w' sb f := ⟨h.b.of_block (hb.block sb (Nat.lt_of_lt_of_le h.b.lt hB)), h.fl.below hb hB, h.ne⟩
/-- A block of numbers is turned. -/
theorem SP.set (h : SP w sb f) {c : Nat} {cs : Array Value} {T : TypeId} {fr : Nat × Nat} (hc : w.heap[c]? = some (.cells cs T fr)) (h1 : T ≠ 92) (h2 : T ≠ 131) (h3 : T ≠ 73) (hg : w.grownBy w' (some c)) : SP w' sb f := by
  have ne : sb ≠ c := by
    intro e
    subst e
    have := h.b
    unfold SPB at this
    rw [hc] at this
    simp at this
    exact h3 this.2.1
  exact ⟨h.b.of_block (hg.block sb h.b.lt (by simp; exact ne)), h.fl.set hc h1 h2 hg, h.ne⟩
end

theorem mnew_any (w : World) : Calls Tryz.prog 13 #[] w fun e w' => ∃ sb f, e = .returned (.pointer (some ⟨sb, 0, none⟩)) ∧ SP w' sb f ∧ w.heap.size ≤ f ∧ w.heap.size ≤ sb ∧ Below w.heap.size w w' := by
  go_enter Tryz.func13, Tryz.ntmps13
  go_wp2_with fail
  refine (new_any _).mono ?_
  rintro e w1 ⟨rfl, hF, hb⟩
  have hlt := hF.lt
  go_wp2
  go_ret
  exact ⟨w1.heap.size, w.heap.size, rfl, ⟨heap_alloc_new w1 _, hF.below ((Below.refl w1.heap.size w1).alloc (Nat.le_refl _) _) (Nat.le_refl _), by omega⟩, Nat.le_refl _, hb.size, hb.alloc hb.size _⟩

theorem made_kcells (n : Nat) : madeCells #[.int .i64 0] n = (kcells n (fun _ => 0) ++ []).toArray := by
  apply Array.toList_inj.1
  rw [toList_madeCells_one]
  apply List.ext_getElem?
  intro i
  by_cases hi : i < n
  · rw [List.append_nil, kcells_get _ hi]; simp [hi]; rfl
  · rw [List.getElem?_eq_none (by simp; omega), List.getElem?_eq_none (by simp [kcells_length]; omega)]

set_option maxRecDepth 100000 in
theorem zeros_any (w : World) (r c : Nat) (hr : r ≤ 255) (hc : c ≤ 255) : Calls Tryz.prog 29 #[.int .i64 r, .int .i64 c] w fun e w' => ∃ g, e = .returned (.agg #[.int .i64 r, .int .i64 c, .slice (some ⟨g, 0, none⟩) (r * c) (r * c)]) ∧ KB w' g (r * c) (fun _ => 0) ∧ w.heap.size ≤ g ∧ Below w.heap.size w w' := by
  have hrc : r * c ≤ 255 * 255 := Nat.mul_le_mul hr hc
  obtain ⟨n, hn⟩ : ∃ n, n = r * c := ⟨_, rfl⟩
  have hm : (r : Int) * (c : Int) = (n : Int) := by rw [← Int.natCast_mul, hn]
  rw [← hn] at hrc ⊢
  clear hn
  have hmk : ∀ w : World, _ := fun w => run_make_row' (P := Tryz.prog) 48 3 (.int .i64 0) 8 Tryz.underlying48 Tryz.info3 rfl .i64 .i64 n (by omega) (by omega) w
  go_enter Tryz.func29, Tryz.ntmps29
  go_wp2
  refine bodyPost_ret (v := .agg #[.int .i64 r, .int .i64 c, .slice (some ⟨w.heap.size + 1, 0, none⟩) n n]) (by simp [results, Tryz.results29, go_sem]) rfl ⟨_, rfl, ⟨[], ?_⟩, by omega, ((Below.refl _ _).alloc (Nat.le_refl _) _).alloc (by simp) _⟩
  rw [← made_kcells]
  have := heap_alloc_new (w.alloc (.cells #[.int .i64 r, .int .i64 c, .slice (some ⟨w.heap.size + 1, 0, none⟩) n n] 50)) (.cells (madeCells #[.int .i64 0] n) 3)
  simpa using this

set_option maxRecDepth 100000 in
theorem row_any (w : World) (i : Nat) {r : Int} {c : Nat} (hi : i < 255) (h1 : 1 ≤ c) (hc : c ≤ 255) {b k cp n : Nat} (h : (i + 1) * c ≤ n) (hn : n ≤ cp) : Calls Tryz.prog 31 #[.agg #[.int .i64 r, .int .i64 c, .slice (some ⟨b, k, none⟩) n cp], .int .i64 i] w fun e w' => e = .returned (.slice (some ⟨b, k + i * c, none⟩) c c) ∧ Below w.heap.size w w' := by
  have hrc : (i + 1) * c ≤ 255 * 255 := Nat.mul_le_mul (by omega) hc
  obtain ⟨x, hx⟩ : ∃ x, x = i * c := ⟨_, rfl⟩
  have hx2 : (i + 1) * c = x + c := by rw [Nat.add_mul, Nat.one_mul, hx]
  have hm : (i : Int) * (c : Int) = (x : Int) := by rw [← Int.natCast_mul, hx]
  have hm2 : ((i : Int) + 1) * (c : Int) = (x : Int) + (c : Int) := by rw [Int.add_mul, Int.one_mul, hm]
  rw [← hx]
  rw [hx2] at h hrc
  clear hx hx2
  go_enter Tryz.func31, Tryz.ntmps31
  go_wp2
  go_quiet (fail)
  go_wp2
  go_ret
  exact ⟨by rw [show x + c - x = c by omega]; rfl, below_drew ((Below.refl _ _).alloc (Nat.le_refl _) _) _⟩
end Go.Proofs.YtfjkdmiaagalhaaGreat

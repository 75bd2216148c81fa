/-
  The contracts of the reader's plain calls.
-/
import Derived.Test.YtifbcmcefggofaaShort
import Derived.Deep.QuietTactic
import Derived.BigQuiet
namespace Go.Proofs.Ytifbcmcefggofaa
open Go.RowKit Go.Lib

/-- A reader lies at block b: its text, its place, its error (T: 52 the program's, 34 the document's). -/
def Rd (T : TypeId) (w : World) (b : Nat) (s : ByteArray) (p : Nat) (x : Int) : Prop :=
  w.heap[b]? = some (.cells #[.string s, .int .i64 p, .int .i64 x] T (0, 0))

section
variable {T : TypeId} {w w' : World} {b : Nat} {s : ByteArray} {p : Nat} {x : Int}

theorem Rd.lt (h : Rd T w b s p x) : b < w.heap.size := lt_of_block h
theorem Rd.cell0 (h : Rd T w b s p x) : w.cell? ⟨b, 0, none⟩ = some (.string s) := by simp [World.cell?, show w.heap[b]? = _ from h]
theorem Rd.cell1 (h : Rd T w b s p x) : w.cell? ⟨b, 1, none⟩ = some (.int .i64 p) := by simp [World.cell?, show w.heap[b]? = _ from h]
theorem Rd.cell2 (h : Rd T w b s p x) : w.cell? ⟨b, 2, none⟩ = some (.int .i64 x) := by simp [World.cell?, show w.heap[b]? = _ from h]
theorem Rd.free (h : Rd T w b s p x) (j : Nat) : w.frozen? ⟨b, j, none⟩ = false := by simp [World.frozen?, show w.heap[b]? = _ from h]
theorem Rd.of_block (h : Rd T w b s p x) (hb : w'.heap[b]? = w.heap[b]?) : Rd T w' b s p x := hb.trans h
theorem Rd.below (h : Rd T w b s p x) {B : Nat} (hb : Below B w w') (hB : b < B) : Rd T w' b s p x := h.of_block (hb.block b hB)
theorem Rd.grown (h : Rd T w b s p x) {row : Option Nat} (hg : w.grownBy w' row) (hne : some b ≠ row) : Rd T w' b s p x := h.of_block (hg.block b h.lt hne)
theorem Rd.drewN (h : Rd T w b s p x) (n : Nat) : Rd T (w.drewN n) b s p x := h
theorem heap_set_self {w : World} {b j : Nat} {u : Value} {c : Array Value} {fr : Nat × Nat} (h : w.heap[b]? = some (.cells c T fr)) : (w.setCell ⟨b, j, none⟩ u).heap[b]? = some (.cells (c.setIfInBounds j u) T fr) := by
  have hlt := lt_of_block h
  have h' : w.heap[b] = .cells c T fr := by simpa [Array.getElem?_eq_getElem hlt] using h
  show (w.heap.modify b _)[b]? = _
  rw [Array.getElem?_eq_getElem (by simpa using hlt), Array.getElem_modify_self, h']
  rfl
theorem Rd.set1 (h : Rd T w b s p x) (p' : Nat) : Rd T (w.setCell ⟨b, 1, none⟩ (.int .i64 p')) b s p' x := heap_set_self (u := .int .i64 p') h
theorem Rd.set2 (h : Rd T w b s p x) (x' : Int) : Rd T (w.setCell ⟨b, 2, none⟩ (.int .i64 x')) b s p x' := heap_set_self (u := .int .i64 x') h

theorem gb_set (w : World) (b j : Nat) (u : Value) : w.grownBy (w.setCell ⟨b, j, none⟩ u) (some b) :=
  ⟨rfl, rfl, rfl, by simp, fun k _ hk => heap_setCell_other w ⟨b, j, none⟩ k u (fun e => hk (by simp [e]))⟩
theorem gb_below (h : Below w.heap.size w w') (row : Option Nat) : w.grownBy w' row := ⟨h.os, h.tape, h.output, h.size, fun k hk _ => h.block k hk⟩
theorem gb_trans {w1 w2 : World} {row : Option Nat} (h : w.grownBy w1 row) (k : w1.grownBy w2 row) : w.grownBy w2 row :=
  ⟨k.os.trans h.os, k.tape.trans h.tape, k.output.trans h.output, Nat.le_trans h.size k.size, fun i hi hne => (k.block i (Nat.lt_of_lt_of_le hi h.size) hne).trans (h.block i hi hne)⟩
theorem gb_drewN {w1 : World} {row : Option Nat} (h : w.grownBy w1 row) (n : Nat) : w.grownBy (w1.drewN n) row := ⟨h.os, h.tape, h.output, h.size, h.block⟩
theorem below_drew {B : Nat} (h : Below B w w') (n : Nat) : Below B w (w'.drewN n) := ⟨h.os, h.tape, h.output, h.size, h.block⟩
end

theorem read_any (s : ByteArray) (w : World) :
    Calls Try.prog 15 #[.string s] w fun e w' => e = .returned (.pointer (some ⟨w.heap.size, 0, none⟩)) ∧ Rd 52 w' w.heap.size s 0 0 ∧ Below w.heap.size w w' := by
  go_enter Try.func15, Try.ntmps15
  go_wp2
  go_ret
  exact ⟨rfl, heap_alloc_new w _, (Below.refl _ _).alloc (Nat.le_refl _) _⟩

theorem left_any {w : World} {b : Nat} {s : ByteArray} {p : Nat} {x : Int} (h : Rd 52 w b s p x) (hp : p ≤ s.size) (hs : s.size ≤ 140737488355328) :
    Calls Try.prog 17 #[.pointer (some ⟨b, 0, none⟩)] w fun e w' => e = .returned (.int .i64 ((s.size : Int) - p)) ∧ ∃ n, w' = w.drewN n := by
  have c0 := h.cell0
  have c1 := h.cell1
  go_enter Try.func17, Try.ntmps17
  go_wp2
  go_quiet (fail)
  go_wp2
  go_ret
  exact ⟨rfl, _, rfl⟩

theorem err_any {w : World} {b : Nat} {s : ByteArray} {p : Nat} {x : Int} (h : Rd 52 w b s p x) :
    Calls Try.prog 19 #[.pointer (some ⟨b, 0, none⟩)] w fun e w' => e = .returned (.int .i64 x) ∧ w' = w := by
  have c2 := h.cell2
  go_enter Try.func19, Try.ntmps19
  go_wp2
  go_ret
  exact ⟨rfl, rfl⟩

/-- The error behind a refusal: the first one stays. -/
def failed (x y : Int) : Int := if x = 0 then y else x
theorem failed_zero (y : Int) : failed 0 y = y := rfl
theorem failed_some {x : Int} (h : ¬ x = 0) (y : Int) : failed x y = x := if_neg h

theorem fail_any {w : World} {b : Nat} {s : ByteArray} {p : Nat} {x : Int} (y : Int) (hr : Rd 52 w b s p x) :
    Calls Try.prog 26 #[.pointer (some ⟨b, 0, none⟩), .int .i64 y] w fun e w' => e = .returned (.tuple #[]) ∧ Rd 52 w' b s p (failed x y) ∧ w.grownBy w' (some b) := by
  have c2 := hr.cell2
  have f2 := hr.free 2
  by_cases hx : x = 0
  · subst hx
    have R := hr.set2 y
    clear hr
    go_enter Try.func26, Try.ntmps26
    go_wp2
    go_end0
    exact ⟨rfl, R, gb_set _ _ _ _⟩
  · have hb : (x == 0) = false := by simpa using hx
    have R : Rd 52 w b s p (failed x y) := by rw [failed_some hx]; exact hr
    clear hx hr
    go_enter Try.func26, Try.ntmps26
    go_wp2
    go_end0
    exact ⟨rfl, R, World.grownBy.refl _ _⟩

/-- The error behind End. -/
def ended (s : ByteArray) (p : Nat) (x : Int) : Int := if p < s.size then failed x 3 else x

theorem end_any {w : World} {b : Nat} {s : ByteArray} {p : Nat} {x : Int} (hr : Rd 52 w b s p x) (hp : p ≤ s.size) (hs : s.size ≤ 140737488355328) :
    Calls Try.prog 24 #[.pointer (some ⟨b, 0, none⟩)] w fun e w' => e = .returned (.int .i64 (ended s p x)) ∧ Rd 52 w' b s p (ended s p x) ∧ w.grownBy w' (some b) := by
  by_cases hlt : p < s.size
  · have he : ended s p x = failed x 3 := if_pos hlt
    rw [he]
    clear he
    go_enter Try.func24, Try.ntmps24
    go_wp2_with fail
    refine (left_any hr hp hs).mono ?_
    rintro e w1 ⟨rfl, n, rfl⟩
    go_wp2_with fail
    refine (fail_any 3 (hr.drewN n)).mono ?_
    rintro e w2 ⟨rfl, hr2, hg⟩
    have c2 := hr2.cell2
    go_wp2
    go_ret
    exact ⟨rfl, hr2, gb_trans (gb_drewN (World.grownBy.refl _ _) n) hg⟩
  · have he : ended s p x = x := if_neg hlt
    rw [he]
    clear he
    have c2 := hr.cell2
    go_enter Try.func24, Try.ntmps24
    go_wp2_with fail
    refine (left_any hr hp hs).mono ?_
    rintro e w1 ⟨rfl, n, rfl⟩
    go_wp2
    go_ret
    exact ⟨rfl, hr.drewN n, gb_drewN (World.grownBy.refl _ _) n⟩

end Go.Proofs.Ytifbcmcefggofaa

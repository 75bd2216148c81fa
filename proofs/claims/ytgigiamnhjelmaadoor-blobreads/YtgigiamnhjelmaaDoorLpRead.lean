/-
  Lz: the reader of a block, by the program: its bytes, its numbers.
-/
import Derived.Test.YtgigiamnhjelmaaDoorLzUnp
import Derived.Test.YtgigiamnhjelmaaDoorLpMath
import Derived.Test.YtgigiamnhjelmaaDoorLzLaw3
namespace Go.Proofs.YtgigiamnhjelmaaDoor
open Go.RowKit Go.Lib
theorem Gs.set {p : Nat → Prop} {w w1 : World} (h : Gs p w w1) {a : Addr} (ha : p a.block ∨ w.heap.size ≤ a.block) (u : Value) : Gs p w (w1.setCell a u) :=
  ⟨h.os, h.tape, h.output, by simp [World.setCell]; exact h.size, fun i hi hp => (Below.heap_setCell _ _ _ _ (by
    intro e
    rcases ha with ha | ha
    · rw [← e] at ha; exact hp ha
    · omega)).trans (h.block i hi hp)⟩
theorem cell1 {w : World} {b : Nat} {v : Value} {T : TypeId} (h : w.heap[b]? = some (.cells #[v] T (0, 0))) : w.cell? ⟨b, 0, none⟩ = some v ∧ w.frozen? ⟨b, 0, none⟩ = false := by simp [World.cell?, World.frozen?, h]
theorem cell3 {w : World} {b : Nat} {v0 v1 v2 : Value} {T : TypeId} (h : w.heap[b]? = some (.cells #[v0, v1, v2] T (0, 0))) : w.cell? ⟨b, 0, none⟩ = some v0 ∧ w.cell? ⟨b, 1, none⟩ = some v1 ∧ w.cell? ⟨b, 2, none⟩ = some v2 := by simp [World.cell?, h]
theorem free3 {w : World} {b : Nat} {v0 v1 v2 : Value} {T : TypeId} (h : w.heap[b]? = some (.cells #[v0, v1, v2] T (0, 0))) (j : Nat) : w.frozen? ⟨b, j, none⟩ = false := by simp [World.frozen?, h]
theorem three_set {w : World} {b : Nat} {z0 z1 z2 : Value} {T : TypeId} (h : w.heap[b]? = some (.cells #[z0, z1, z2] T (0, 0))) (x y z : Value) :
    (w.cell? ⟨b, 0, none⟩ = some z0 ∧ w.cell? ⟨b, 1, none⟩ = some z1 ∧ w.cell? ⟨b, 2, none⟩ = some z2 ∧ w.frozen? ⟨b, 0, none⟩ = false ∧ w.frozen? ⟨b, 1, none⟩ = false ∧ w.frozen? ⟨b, 2, none⟩ = false) ∧
    ((w.setCell ⟨b, 0, none⟩ x).cell? ⟨b, 1, none⟩ = some z1 ∧ (w.setCell ⟨b, 0, none⟩ x).cell? ⟨b, 2, none⟩ = some z2 ∧ (w.setCell ⟨b, 0, none⟩ x).frozen? ⟨b, 1, none⟩ = false ∧ (w.setCell ⟨b, 0, none⟩ x).frozen? ⟨b, 2, none⟩ = false) ∧
    (((w.setCell ⟨b, 0, none⟩ x).setCell ⟨b, 1, none⟩ y).cell? ⟨b, 2, none⟩ = some z2 ∧ ((w.setCell ⟨b, 0, none⟩ x).setCell ⟨b, 1, none⟩ y).frozen? ⟨b, 2, none⟩ = false) ∧
    (((w.setCell ⟨b, 0, none⟩ x).setCell ⟨b, 1, none⟩ y).setCell ⟨b, 2, none⟩ z).heap[b]? = some (.cells #[x, y, z] T (0, 0)) ∧
    Gs (fun i => i = b) w (((w.setCell ⟨b, 0, none⟩ x).setCell ⟨b, 1, none⟩ y).setCell ⟨b, 2, none⟩ z) := by
  have k0 : (w.setCell ⟨b, 0, none⟩ x).heap[b]? = some (.cells #[x, z1, z2] T (0, 0)) := heap_set_self h
  have k1 : ((w.setCell ⟨b, 0, none⟩ x).setCell ⟨b, 1, none⟩ y).heap[b]? = some (.cells #[x, y, z2] T (0, 0)) := heap_set_self k0
  have k2 : (((w.setCell ⟨b, 0, none⟩ x).setCell ⟨b, 1, none⟩ y).setCell ⟨b, 2, none⟩ z).heap[b]? = some (.cells #[x, y, z] T (0, 0)) := heap_set_self k1
  obtain ⟨a0, a1, a2⟩ := cell3 h
  obtain ⟨_, b1, b2⟩ := cell3 k0
  obtain ⟨_, _, c2⟩ := cell3 k1
  exact ⟨⟨a0, a1, a2, by simp [World.frozen?, h], by simp [World.frozen?, h], by simp [World.frozen?, h]⟩, ⟨b1, b2, by simp [World.frozen?, k0], by simp [World.frozen?, k0]⟩, ⟨c2, by simp [World.frozen?, k1]⟩, k2, (((Gs.refl (fun i => i = b) w).set (a := ⟨b, 0, none⟩) (.inl rfl) _).set (a := ⟨b, 1, none⟩) (.inl rfl) _).set (a := ⟨b, 2, none⟩) (.inl rfl) _⟩
/-- A reader at a place of s: d bytes were unpacked; was something wrong? -/
def RD (w : World) (b : Nat) (s : ByteArray) (i d : Nat) (x : Bool) : Prop := w.heap[b]? = some (.cells #[.string (s.extract i s.size), .int .i64 (d : Int), .bool x] 115 (0, 0))
def Me (b : Nat) (i : Nat) : Prop := i = b
section
variable {w w' : World} {b i d n : Nat} {s : ByteArray} {x : Bool}
theorem RD.lt (h : RD w b s i d x) : b < w.heap.size := lt_of_block h
theorem RD.kb (h : RD w b s i d x) (hb : w'.heap[b]? = w.heap[b]?) : RD w' b s i d x := hb.trans h
theorem RD.bel (h : RD w b s i d x) (hb : Below w.heap.size w w') : RD w' b s i d x := h.kb (hb.block b h.lt)
theorem RD.gs {p : Nat → Prop} (h : RD w b s i d x) (hb : Gs p w w') (hp : ¬ p b) : RD w' b s i d x := h.kb (hb.block b h.lt hp)
theorem RD.done (h : RD w b s i d x) (k : Nat) : RD (w.setCell ⟨b, 1, none⟩ (.int .i64 (k : Int))) b s i k x := heap_set_self (u := .int .i64 (k : Int)) h
theorem RD.at (h : RD w b s i d x) (k : Nat) : RD (w.setCell ⟨b, 0, none⟩ (.string (s.extract k s.size))) b s k d x := heap_set_self (u := .string (s.extract k s.size)) h
theorem RD.bad (h : RD w b s i d x) (y : Bool) : RD (w.setCell ⟨b, 2, none⟩ (.bool y)) b s i d y := heap_set_self (u := .bool y) h
theorem ext_end (s : ByteArray) {i : Nat} (h : s.size ≤ i) : s.extract i s.size = ⟨#[]⟩ := by
  have : (s.extract i s.size).size = 0 := by rw [ByteArray.size_extract]; omega
  exact ByteArray.ext (Array.eq_empty_of_size_eq_zero this)
theorem fail_any (h : RD w b s i d x) : Calls Tryd.prog 82 #[.pointer (some ⟨b, 0, none⟩)] w fun e w' => e = .returned (.tuple #[]) ∧ RD w' b s s.size d true ∧ Gs (Me b) w w' := by
  have h1 := h.at s.size
  have h2 := h1.bad true
  have f0 := free3 h 0
  have f2 := free3 h1 2
  rw [ext_end s (Nat.le_refl _)] at h2 f2
  have HG := hide (And.intro h2 (((Gs.refl (Me b) w).set (a := ⟨b, 0, none⟩) (.inl rfl) (.string ⟨#[]⟩)).set (a := ⟨b, 2, none⟩) (.inl rfl) (.bool true)))
  have HL := h.lt
  have g0 := (cell3 h).1
  have g2 := (cell3 h1).2.2
  rw [ext_end s (Nat.le_refl _)] at g2
  clear h h1 h2
  go_enter Tryd.func82, Tryd.ntmps82
  go_wp2
  go_end0
  refine ⟨rfl, ?_, HG.out.2⟩
  exact HG.out.1
theorem sl_from {r : ByteArray} {a : Nat} (h1 : a ≤ r.size) (w : World) : (Instr.slice 9 (.string r) (some (.int .i64 (a : Int))) none none).run Tryd.prog w = .ok (.string (r.extract a r.size)) w := by
  have h2 : (a : Int) ≤ (r.size : Int) := by omega
  simp [go_sem, Tryd.underlying9, h2]
theorem ext_ext {s : ByteArray} {i n : Nat} (h : i + n ≤ s.size) : (s.extract i s.size).extract 0 n = s.extract i (i + n) ∧ (s.extract i s.size).extract n (s.extract i s.size).size = s.extract (i + n) s.size := by
  have hz : (s.extract i s.size).size = s.size - i := by rw [ByteArray.size_extract]; omega
  rw [hz, ByteArray.extract_extract, ByteArray.extract_extract]
  constructor
  · rw [Nat.add_zero, Nat.min_eq_left h]
  · congr 1; omega
theorem bytes_ok (h : RD w b s i d x) (hn : i + n ≤ s.size) : Calls Tryd.prog 80 #[.pointer (some ⟨b, 0, none⟩), .int .i64 (n : Int)] w fun e w' => e = .returned (.string (s.extract i (i + n))) ∧ RD w' b s (i + n) d x ∧ Gs (Me b) w w' := by
  have h1 := h.at (i + n)
  have HG := hide (And.intro h1 ((Gs.refl (Me b) w).set (a := ⟨b, 0, none⟩) (.inl rfl) (.string (s.extract (i + n) s.size))))
  have f0 := free3 h 0
  have g0 := (cell3 h).1
  have hl := h.lt
  have hz : (s.extract i s.size).size = s.size - i := by rw [ByteArray.size_extract]; omega
  obtain ⟨e1, e2⟩ := ext_ext hn
  have s1 := sl_to (s := s.extract i s.size) (a := n) (by omega)
  have s2 := sl_from (r := s.extract i s.size) (a := n) (by omega)
  rw [e1] at s1
  rw [e2] at s2
  have c1 : ¬ ((s.extract i s.size).size : Int) < (n : Int) := by omega
  generalize s.extract i s.size = r at *
  clear h h1 e1 e2
  go_enter Tryd.func80, Tryd.ntmps80
  go_wp2
  go_ret
  exact ⟨rfl, HG.out⟩
theorem bytes_bad (h : RD w b s i d x) (hi : i ≤ s.size) (hn : s.size < i + n) : Calls Tryd.prog 80 #[.pointer (some ⟨b, 0, none⟩), .int .i64 (n : Int)] w fun e w' => e = .returned (.string ⟨#[]⟩) ∧ RD w' b s s.size d true ∧ Gs (Me b) w w' := by
  have HF := hide (fail_any h)
  have g0 := (cell3 h).1
  have hl := h.lt
  have hz : (s.extract i s.size).size = s.size - i := by rw [ByteArray.size_extract]; omega
  have c1 : ((s.extract i s.size).size : Int) < (n : Int) := by omega
  generalize s.extract i s.size = r at *
  clear h
  go_enter Tryd.func80, Tryd.ntmps80
  go_wp2_with fail
  refine HF.out.mono ?_
  rintro e w2 ⟨rfl, h2, hg⟩
  have HG := hide (And.intro h2 hg)
  clear h2 hg
  go_wp2
  go_ret
  exact ⟨rfl, HG.out⟩
theorem number_ok (h : RD w b s i d x) (hn : i < s.size) : Calls Tryd.prog 79 #[.pointer (some ⟨b, 0, none⟩)] w fun e w' => e = .returned (.int .i64 ((bt s i : Nat) : Int)) ∧ RD w' b s (i + 1) d x ∧ Gs (Me b) w w' := by
  have HB := hide (bytes_ok (n := 1) h (by omega))
  obtain ⟨t, ht⟩ : ∃ t, t = s.extract i (i + 1) := ⟨_, rfl⟩
  have hz : t.size = 1 := by rw [ht, ByteArray.size_extract]; omega
  have hb : bt t 0 = bt s i := by
    rw [← bt_lst, ← bt_lst, ht, ByteArray.data_extract, Array.toList_extract]
    show ((List.take (i + 1 - i) (List.drop i s.data.toList)).getD 0 0).toNat = _
    rw [show i + 1 - i = 1 by omega, List.getD_eq_getElem?_getD, List.getElem?_take, if_pos (by decide), List.getElem?_drop, Nat.add_zero, List.getD_eq_getElem?_getD]
  have ix : ∀ w : World, (Instr.index 9 (.string t) (.int .i64 0)).run Tryd.prog w = .ok (.int .u8 ((bt t 0 : Nat) : Int)) w := ix_at (i := 0) (s := t) (by omega)
  have cv := cv_u8 t 0
  have hne2 : ¬ t.toList = [] := by
    rw [bytes_list]
    intro e
    have h3 := congrArg List.length e
    have h4 : t.size = 0 := by simpa using h3
    omega
  have hne : t.toList.isEmpty = false := List.isEmpty_eq_false_iff.2 hne2
  rw [← ht] at HB
  rw [hb] at ix cv
  generalize bt s i = c at *
  clear h hb ht
  go_enter Tryd.func79, Tryd.ntmps79
  go_wp2_with fail
  refine HB.out.mono ?_
  rintro e w2 ⟨rfl, h2, hg⟩
  have HG := hide (And.intro h2 hg)
  clear h2 hg
  go_wp2
  go_ret
  exact ⟨rfl, HG.out⟩
theorem number_bad (h : RD w b s i d x) (hi : i = s.size) : Calls Tryd.prog 79 #[.pointer (some ⟨b, 0, none⟩)] w fun e w' => e = .returned (.int .i64 0) ∧ RD w' b s s.size d true ∧ Gs (Me b) w w' := by
  have HB := hide (bytes_bad (n := 1) h (by omega) (by omega))
  clear h hi
  go_enter Tryd.func79, Tryd.ntmps79
  go_wp2_with fail
  refine HB.out.mono ?_
  rintro e w2 ⟨rfl, h2, hg⟩
  have HG := hide (And.intro h2 hg)
  clear h2 hg
  go_wp2
  go_ret
  exact ⟨rfl, HG.out⟩
end
end Go.Proofs.YtgigiamnhjelmaaDoor

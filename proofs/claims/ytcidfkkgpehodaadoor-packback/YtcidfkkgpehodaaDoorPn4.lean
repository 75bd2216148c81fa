/-
  Contracts of the program and of the statements (part 4 of 12).
-/
import Derived.Test.YtcidfkkgpehodaaDoorPn3

namespace Go.Proofs.YtcidfkkgpehodaaDoor
open Go.RowKit Go.Lib
theorem Gs.set {p : Nat → Prop} {w w1 : World} (h : Gs p w w1) {a : Addr} (ha : p a.block ∨ w.heap.size ≤ a.block) (u : Value) : Gs p w (w1.setCell a u) :=
  ⟨h.os, h.tape, h.output, by simp [World.setCell]; exact h.size, fun i hi hp => (Below.heap_setCell _ _ _ _ (by
    intro e
    rcases ha with ha | ha
    · rw [← e] at ha; exact hp ha
    · omega)).trans (h.block i hi hp)⟩
theorem cell1 {w : World} {b : Nat} {v : Value} {T : TypeId} (h : w.heap[b]? = some (.cells #[v] T (0, 0))) : w.cell? ⟨b, 0, none⟩ = some v ∧ w.frozen? ⟨b, 0, none⟩ = false := by simp [World.cell?, World.frozen?, h]
theorem cell3 {w : World} {b : Nat} {v0 v1 v2 : Value} {T : TypeId} (h : w.heap[b]? = some (.cells #[v0, v1, v2] T (0, 0))) : w.cell? ⟨b, 0, none⟩ = some v0 ∧ w.cell? ⟨b, 1, none⟩ = some v1 ∧ w.cell? ⟨b, 2, none⟩ = some v2 := by simp [World.cell?, h]
theorem free3 {w : World} {b : Nat} {v0 v1 v2 : Value} {T : TypeId} (h : w.heap[b]? = some (.cells #[v0, v1, v2] T (0, 0))) (j : Nat) : w.frozen? ⟨b, j, none⟩ = false := by simp [World.frozen?, h]
theorem three_set {w : World} {b : Nat} {z0 z1 z2 : Value} {T : TypeId} (h : w.heap[b]? = some (.cells #[z0, z1, z2] T (0, 0))) (x y z : Value) :
    (w.cell? ⟨b, 0, none⟩ = some z0 ∧ w.cell? ⟨b, 1, none⟩ = some z1 ∧ w.cell? ⟨b, 2, none⟩ = some z2 ∧ w.frozen? ⟨b, 0, none⟩ = false ∧ w.frozen? ⟨b, 1, none⟩ = false ∧ w.frozen? ⟨b, 2, none⟩ = false) ∧
    ((w.setCell ⟨b, 0, none⟩ x).cell? ⟨b, 1, none⟩ = some z1 ∧ (w.setCell ⟨b, 0, none⟩ x).cell? ⟨b, 2, none⟩ = some z2 ∧ (w.setCell ⟨b, 0, none⟩ x).frozen? ⟨b, 1, none⟩ = false ∧ (w.setCell ⟨b, 0, none⟩ x).frozen? ⟨b, 2, none⟩ = false) ∧
    (((w.setCell ⟨b, 0, none⟩ x).setCell ⟨b, 1, none⟩ y).cell? ⟨b, 2, none⟩ = some z2 ∧ ((w.setCell ⟨b, 0, none⟩ x).setCell ⟨b, 1, none⟩ y).frozen? ⟨b, 2, none⟩ = false) ∧
    (((w.setCell ⟨b, 0, none⟩ x).setCell ⟨b, 1, none⟩ y).setCell ⟨b, 2, none⟩ z).heap[b]? = some (.cells #[x, y, z] T (0, 0)) ∧
    Gs (fun i => i = b) w (((w.setCell ⟨b, 0, none⟩ x).setCell ⟨b, 1, none⟩ y).setCell ⟨b, 2, none⟩ z) := by
  have k0 : (w.setCell ⟨b, 0, none⟩ x).heap[b]? = some (.cells #[x, z1, z2] T (0, 0)) := heap_set_self h
  have k1 : ((w.setCell ⟨b, 0, none⟩ x).setCell ⟨b, 1, none⟩ y).heap[b]? = some (.cells #[x, y, z2] T (0, 0)) := heap_set_self k0
  have k2 : (((w.setCell ⟨b, 0, none⟩ x).setCell ⟨b, 1, none⟩ y).setCell ⟨b, 2, none⟩ z).heap[b]? = some (.cells #[x, y, z] T (0, 0)) := heap_set_self k1
  obtain ⟨a0, a1, a2⟩ := cell3 h
  obtain ⟨_, b1, b2⟩ := cell3 k0
  obtain ⟨_, _, c2⟩ := cell3 k1
  exact ⟨⟨a0, a1, a2, by simp [World.frozen?, h], by simp [World.frozen?, h], by simp [World.frozen?, h]⟩, ⟨b1, b2, by simp [World.frozen?, k0], by simp [World.frozen?, k0]⟩, ⟨c2, by simp [World.frozen?, k1]⟩, k2, (((Gs.refl (fun i => i = b) w).set (a := ⟨b, 0, none⟩) (.inl rfl) _).set (a := ⟨b, 1, none⟩) (.inl rfl) _).set (a := ⟨b, 2, none⟩) (.inl rfl) _⟩
/-- A reader at a place of s: d bytes were unpacked; was something wrong? -/
def RD (w : World) (b : Nat) (s : ByteArray) (i d : Nat) (x : Bool) : Prop := w.heap[b]? = some (.cells #[.string (s.extract i s.size), .int .i64 (d : Int), .bool x] 154 (0, 0))
def Me (b : Nat) (i : Nat) : Prop := i = b
section
variable {w w' : World} {b i d n : Nat} {s : ByteArray} {x : Bool}
theorem RD.lt (h : RD w b s i d x) : b < w.heap.size := lt_of_block h
theorem RD.kb (h : RD w b s i d x) (hb : w'.heap[b]? = w.heap[b]?) : RD w' b s i d x := hb.trans h
theorem RD.bel (h : RD w b s i d x) (hb : Below w.heap.size w w') : RD w' b s i d x := h.kb (hb.block b h.lt)
theorem RD.gs {p : Nat → Prop} (h : RD w b s i d x) (hb : Gs p w w') (hp : ¬ p b) : RD w' b s i d x := h.kb (hb.block b h.lt hp)
theorem RD.done (h : RD w b s i d x) (k : Nat) : RD (w.setCell ⟨b, 1, none⟩ (.int .i64 (k : Int))) b s i k x := heap_set_self (u := .int .i64 (k : Int)) h
theorem RD.at (h : RD w b s i d x) (k : Nat) : RD (w.setCell ⟨b, 0, none⟩ (.string (s.extract k s.size))) b s k d x := heap_set_self (u := .string (s.extract k s.size)) h
theorem RD.bad (h : RD w b s i d x) (y : Bool) : RD (w.setCell ⟨b, 2, none⟩ (.bool y)) b s i d y := heap_set_self (u := .bool y) h
theorem ext_end (s : ByteArray) {i : Nat} (h : s.size ≤ i) : s.extract i s.size = ⟨#[]⟩ := by
  have : (s.extract i s.size).size = 0 := by rw [ByteArray.size_extract]; omega
  exact ByteArray.ext (Array.eq_empty_of_size_eq_zero this)
theorem fail_any (h : RD w b s i d x) : Calls Tryd.prog 108 #[.pointer (some ⟨b, 0, none⟩)] w fun e w' => e = .returned (.tuple #[]) ∧ RD w' b s s.size d true ∧ Gs (Me b) w w' := by
  have h1 := h.at s.size
  have h2 := h1.bad true
  have f0 := free3 h 0
  have f2 := free3 h1 2
  rw [ext_end s (Nat.le_refl _)] at h2 f2
  have HG := hide (And.intro h2 (((Gs.refl (Me b) w).set (a := ⟨b, 0, none⟩) (.inl rfl) (.string ⟨#[]⟩)).set (a := ⟨b, 2, none⟩) (.inl rfl) (.bool true)))
  have HL := h.lt
  have g0 := (cell3 h).1
  have g2 := (cell3 h1).2.2
  rw [ext_end s (Nat.le_refl _)] at g2
  clear h h1 h2
  go_enter Tryd.func108, Tryd.ntmps108
  go_wp2
  go_end0
  refine ⟨rfl, ?_, HG.out.2⟩
  exact HG.out.1
theorem sl_from {r : ByteArray} {a : Nat} (h1 : a ≤ r.size) (w : World) : (Instr.slice 9 (.string r) (some (.int .i64 (a : Int))) none none).run Tryd.prog w = .ok (.string (r.extract a r.size)) w := by
  have h2 : (a : Int) ≤ (r.size : Int) := by omega
  simp [go_sem, Tryd.underlying9, h2]
theorem ext_ext {s : ByteArray} {i n : Nat} (h : i + n ≤ s.size) : (s.extract i s.size).extract 0 n = s.extract i (i + n) ∧ (s.extract i s.size).extract n (s.extract i s.size).size = s.extract (i + n) s.size := by
  have hz : (s.extract i s.size).size = s.size - i := by rw [ByteArray.size_extract]; omega
  rw [hz, ByteArray.extract_extract, ByteArray.extract_extract]
  constructor
  · rw [Nat.add_zero, Nat.min_eq_left h]
  · congr 1; omega
theorem bytes_ok (h : RD w b s i d x) (hn : i + n ≤ s.size) : Calls Tryd.prog 106 #[.pointer (some ⟨b, 0, none⟩), .int .i64 (n : Int)] w fun e w' => e = .returned (.string (s.extract i (i + n))) ∧ RD w' b s (i + n) d x ∧ Gs (Me b) w w' := by
  have h1 := h.at (i + n)
  have HG := hide (And.intro h1 ((Gs.refl (Me b) w).set (a := ⟨b, 0, none⟩) (.inl rfl) (.string (s.extract (i + n) s.size))))
  have f0 := free3 h 0
  have g0 := (cell3 h).1
  have hl := h.lt
  have hz : (s.extract i s.size).size = s.size - i := by rw [ByteArray.size_extract]; omega
  obtain ⟨e1, e2⟩ := ext_ext hn
  have s1 := sl_to (s := s.extract i s.size) (a := n) (by omega)
  have s2 := sl_from (r := s.extract i s.size) (a := n) (by omega)
  rw [e1] at s1
  rw [e2] at s2
  have c1 : ¬ ((s.extract i s.size).size : Int) < (n : Int) := by omega
  generalize s.extract i s.size = r at *
  clear h h1 e1 e2
  go_enter Tryd.func106, Tryd.ntmps106
  go_wp2
  go_ret
  exact ⟨rfl, HG.out⟩
theorem bytes_bad (h : RD w b s i d x) (hi : i ≤ s.size) (hn : s.size < i + n) : Calls Tryd.prog 106 #[.pointer (some ⟨b, 0, none⟩), .int .i64 (n : Int)] w fun e w' => e = .returned (.string ⟨#[]⟩) ∧ RD w' b s s.size d true ∧ Gs (Me b) w w' := by
  have HF := hide (fail_any h)
  have g0 := (cell3 h).1
  have hl := h.lt
  have hz : (s.extract i s.size).size = s.size - i := by rw [ByteArray.size_extract]; omega
  have c1 : ((s.extract i s.size).size : Int) < (n : Int) := by omega
  generalize s.extract i s.size = r at *
  clear h
  go_enter Tryd.func106, Tryd.ntmps106
  go_wp2_with fail
  refine HF.out.mono ?_
  rintro e w2 ⟨rfl, h2, hg⟩
  have HG := hide (And.intro h2 hg)
  clear h2 hg
  go_wp2
  go_ret
  exact ⟨rfl, HG.out⟩
theorem number_ok (h : RD w b s i d x) (hn : i < s.size) : Calls Tryd.prog 105 #[.pointer (some ⟨b, 0, none⟩)] w fun e w' => e = .returned (.int .i64 ((bt s i : Nat) : Int)) ∧ RD w' b s (i + 1) d x ∧ Gs (Me b) w w' := by
  have HB := hide (bytes_ok (n := 1) h (by omega))
  obtain ⟨t, ht⟩ : ∃ t, t = s.extract i (i + 1) := ⟨_, rfl⟩
  have hz : t.size = 1 := by rw [ht, ByteArray.size_extract]; omega
  have hb : bt t 0 = bt s i := by
    rw [← bt_lst, ← bt_lst, ht, ByteArray.data_extract, Array.toList_extract]
    show ((List.take (i + 1 - i) (List.drop i s.data.toList)).getD 0 0).toNat = _
    rw [show i + 1 - i = 1 by omega, List.getD_eq_getElem?_getD, List.getElem?_take, if_pos (by decide), List.getElem?_drop, Nat.add_zero, List.getD_eq_getElem?_getD]
  have ix : ∀ w : World, (Instr.index 9 (.string t) (.int .i64 0)).run Tryd.prog w = .ok (.int .u8 ((bt t 0 : Nat) : Int)) w := ix_at (i := 0) (s := t) (by omega)
  have cv := cv_u8 t 0
  have hne2 : ¬ t.toList = [] := by
    rw [bytes_list]
    intro e
    have h3 := congrArg List.length e
    have h4 : t.size = 0 := by simpa using h3
    omega
  have hne : t.toList.isEmpty = false := List.isEmpty_eq_false_iff.2 hne2
  rw [← ht] at HB
  rw [hb] at ix cv
  generalize bt s i = c at *
  clear h hb ht
  go_enter Tryd.func105, Tryd.ntmps105
  go_wp2_with fail
  refine HB.out.mono ?_
  rintro e w2 ⟨rfl, h2, hg⟩
  have HG := hide (And.intro h2 hg)
  clear h2 hg
  go_wp2
  go_ret
  exact ⟨rfl, HG.out⟩
theorem number_bad (h : RD w b s i d x) (hi : i = s.size) : Calls Tryd.prog 105 #[.pointer (some ⟨b, 0, none⟩)] w fun e w' => e = .returned (.int .i64 0) ∧ RD w' b s s.size d true ∧ Gs (Me b) w w' := by
  have HB := hide (bytes_bad (n := 1) h (by omega) (by omega))
  clear h hi
  go_enter Tryd.func105, Tryd.ntmps105
  go_wp2_with fail
  refine HB.out.mono ?_
  rintro e w2 ⟨rfl, h2, hg⟩
  have HG := hide (And.intro h2 hg)
  clear h2 hg
  go_wp2
  go_ret
  exact ⟨rfl, HG.out⟩
end
end Go.Proofs.YtcidfkkgpehodaaDoor

namespace Go.Proofs.YtcidfkkgpehodaaDoor
open Go.RowKit Go.Lib
/-- A kind, without the bit that tells whether it is packed. -/
def kd (a : Nat) : Nat := if a / 16 % 2 = 1 then a - 16 else a
theorem kd_not_fin : ∀ a : Fin 256, bits .andNot .i64 (a.val : Int) 16 = ((kd a.val : Nat) : Int) := by decide +kernel
theorem kd_and_fin : ∀ a : Fin 256, bits .and .i64 (a.val : Int) 16 = if a.val / 16 % 2 = 1 then 16 else 0 := by decide +kernel
theorem kn_kd_fin : ∀ a : Fin 256, kn ((kd a.val : Nat) : Int) = (kn (a.val : Int) || kn ((a.val : Int) - 16)) := by decide +kernel
theorem kd_not {a : Nat} (h : a < 256) : bits .andNot .i64 (a : Int) 16 = ((kd a : Nat) : Int) := kd_not_fin ⟨a, h⟩
theorem kd_and {a : Nat} (h : a < 256) : bits .and .i64 (a : Int) 16 = if a / 16 % 2 = 1 then 16 else 0 := kd_and_fin ⟨a, h⟩
theorem kn_kd {a : Nat} (h : a < 256) : kn ((kd a : Nat) : Int) = (kn (a : Int) || kn ((a : Int) - 16)) := kn_kd_fin ⟨a, h⟩
/-- What the three questions find: the first byte, the length, all the rest. -/
def h1 (s : ByteArray) : Zq.Nm.Ah := Zq.Nm.asked 0 (Zq.Nm.fixedA s 0 1)
def p1 (s : ByteArray) : Nat := 0 + (h1 s).long
def h2 (s : ByteArray) : Zq.Nm.Ah := Zq.Nm.asked (h1 s).code (Zq.Nm.shortA s (p1 s) 65536)
def p2 (s : ByteArray) : Nat := p1 s + (h2 s).long
def h3 (s : ByteArray) : Zq.Nm.Ah := Zq.Nm.asked (h2 s).code (Zq.Nm.bytesA s (p2 s) ((s.size : Int) - (p2 s : Int)))
theorem heads (s : ByteArray) : (h1 s).num < 256 ∧ p1 s ≤ s.size ∧ p2 s ≤ s.size ∧ (okH s = (decide ((h3 s).code = 0) && kn ((kd (h1 s).num : Nat) : Int))) ∧
    (okH s = true → (h1 s).num = fb s ∧ (h2 s).num = lnB s ∧ (h3 s).txt = s.extract (atB s) s.size) := by
  by_cases h0 : s.size = 0
  · have e1 : h1 s = .bad 10 := by rw [h1, Zq.Nm.asked_zero, Zq.Nm.fixedA, if_neg (by omega), if_pos (by omega)]
    have q1 : p1 s = 0 := by rw [p1, e1]; rfl
    have e2 : h2 s = .bad 10 := by rw [h2, e1]; exact Zq.Nm.asked_some (by decide) _
    have q2 : p2 s = 0 := by rw [p2, q1, e2]; rfl
    have e3 : h3 s = .bad 10 := by rw [h3, e2]; exact Zq.Nm.asked_some (by decide) _
    have ho := ok_no1 h0
    refine ⟨?_, by omega, by omega, ?_, fun h => absurd (ho.symm.trans h) (by decide)⟩
    · rw [e1]; decide
    · rw [ho, e3]; rfl
  · have hx : (s.extract 0 1).data.toList = [s.data.toList.getD 0 0] := by
      have hl : s.data.toList.length = s.size := by rw [ByteArray.size, Array.length_toList]
      rw [ByteArray.data_extract, Array.toList_extract, List.extract_eq_take_drop, List.drop_zero]
      match h : s.data.toList, hl with
      | [], hl => simp at hl; omega
      | a :: r, _ => rfl
    have hnum : Zq.Nm.numOf (s.extract 0 1).data.toList = bt s 0 := by
      rw [hx, Zq.Nm.numOf, List.foldl_cons, List.foldl_nil, Nat.zero_mul, Nat.zero_add]
      exact bt_lst s 0
    have e1 : h1 s = ⟨bt s 0, ⟨#[]⟩, 1, 0⟩ := by
      rw [h1, Zq.Nm.asked_zero, Zq.Nm.fixedA, if_neg (by omega), if_neg (by omega)]
      show (⟨Zq.Nm.numOf (s.extract 0 1).data.toList, ⟨#[]⟩, 1, 0⟩ : Zq.Nm.Ah) = _
      rw [hnum]
    have q1 : p1 s = 1 := by rw [p1, e1]; rfl
    have e2 : h2 s = hdA s := by rw [h2, e1, q1, hdA]; exact Zq.Nm.asked_zero _
    have hf : (h1 s).num = fb s := by rw [e1]; rfl
    have hlt : (h1 s).num < 256 := by rw [e1]; exact bt_lt s 0
    have hkk := kn_kd hlt
    refine ⟨hlt, by omega, ?_⟩
    rcases Zq.Nm.shortA_cases s 1 65536 (by omega) with ⟨c, hc, e⟩ | ⟨n, l, e, a1, a2, a3⟩
    · have e3 : hdA s = .bad c := e
      have q2 : p2 s = 1 := by rw [p2, q1, e2, e3]; rfl
      have e4 : h3 s = .bad c := by rw [h3, e2, e3]; exact Zq.Nm.asked_some hc _
      have ho := ok_no3 e3 hc
      refine ⟨by omega, ?_, fun h => absurd (ho.symm.trans h) (by decide)⟩
      rw [ho, e4]
      have : decide ((Zq.Nm.Ah.bad c).code = 0) = false := decide_eq_false hc
      rw [this, Bool.false_and]
    · have e3 : hdA s = ⟨n, ⟨#[]⟩, l, 0⟩ := e
      have q2 : p2 s = 1 + l := by rw [p2, q1, e2, e3]
      have e4 : h3 s = ⟨0, s.extract (1 + l) s.size, s.size - (1 + l), 0⟩ := by
        rw [h3, e2, e3, q2]
        show Zq.Nm.asked 0 _ = _
        rw [Zq.Nm.asked_zero, Zq.Nm.bytesA, if_neg (by omega), if_neg (by omega), show ((s.size : Int) - ((1 + l : Nat) : Int)).toNat = s.size - (1 + l) by omega, show 1 + l + (s.size - (1 + l)) = s.size by omega]
      refine ⟨by omega, ?_, fun h => ⟨hf, ?_, ?_⟩⟩
      · rw [okH, hkk, e3, e4, hf]
        have k1 : decide (0 < s.size) = true := decide_eq_true (by omega)
        rw [k1, Bool.true_and, Bool.and_comm]
        rfl
      · rw [e2, lnB, if_pos h]
      · rw [e4, atB, if_pos h, e3]
/-- The head that is read. -/
def hdV (s : ByteArray) : Value := .agg #[.int .i64 (((h1 s).num : Nat) : Int), .int .i64 (((h2 s).num : Nat) : Int), .string (h3 s).txt]
set_option maxRecDepth 100000 in
theorem kind_any {w : World} {f : Nat} (hf : f < 256) (n : Int) (t : ByteArray) : Calls Tryd.prog 59 #[.agg #[.int .i64 (f : Int), .int .i64 n, .string t]] w fun e w' => e = .returned (.int .i64 ((kd f : Nat) : Int)) ∧ Below w.heap.size w w' := by
  have hk := kd_not hf
  obtain ⟨k, hkk⟩ : ∃ k, kd f = k := ⟨_, rfl⟩
  rw [hkk] at hk ⊢
  have HB := hide (below_al (Below.refl w.heap.size w))
  go_enter Tryd.func59, Tryd.ntmps59
  go_wp2
  go_ret
  exact ⟨rfl, HB.out _⟩
theorem known_any (k : Int) (w : World) : Calls Tryd.prog 51 #[.int .i64 k] w fun e w' => e = .returned (.bool (kn k)) ∧ w' = w := by
  by_cases h1 : k = 1
  · subst h1
    go_enter Tryd.func51, Tryd.ntmps51
    go_wp2
    go_ret
    exact ⟨rfl, rfl⟩
  · by_cases h2 : k = 2
    · subst h2
      go_enter Tryd.func51, Tryd.ntmps51
      go_wp2
      go_ret
      exact ⟨rfl, rfl⟩
    · have c1 : (k == 1) = false := by simpa using h1
      have c2 : (k == 2) = false := by simpa using h2
      have e : kn k = false := by simp [kn, c1, c2]
      rw [e]
      clear h1 h2
      go_enter Tryd.func51, Tryd.ntmps51
      go_wp2
      go_ret
      exact ⟨rfl, rfl⟩
theorem known_call {k : Int} {b : Bool} (h : kn k = b) (w : World) : Calls Tryd.prog 51 #[.int .i64 k] w fun e w' => e = .returned (.bool b) ∧ w' = w := h ▸ known_any k w
end Go.Proofs.YtcidfkkgpehodaaDoor

namespace Go.Proofs.YtcidfkkgpehodaaDoor
open Go.RowKit Go.Lib
section
variable {w w' : World} {b i d h : Nat} {s : ByteArray} {x : Bool}
/-- What a sum comes to. -/
def SumP (s : ByteArray) (i h b d : Nat) (x : Bool) (w : World) (m : Nat) (w' : World) : Prop :=
  ((∃ j, mo s i h = some (m, j) ∧ RD w' b s j d x) ∨ (mo s i h = none ∧ 15 ≤ m ∧ RD w' b s s.size d true)) ∧ m ≤ 15 + 255 * s.size ∧ Gs (Me b) w w'
def szW (w : World) (b : Nat) : Nat := match w.cell? ⟨b, 0, none⟩ with
  | some (.string r) => r.size
  | _ => 0
theorem RD.szW (h : RD w b s i d x) (hi : i ≤ s.size) : szW w b = s.size - i := by
  rw [Go.Proofs.YtcidfkkgpehodaaDoor.szW, (cell3 h).1]
  show (s.extract i s.size).size = _
  rw [ByteArray.size_extract]; omega
def moreV : Value → Nat → Nat
  | .bool true, n => n + 1
  | _, _ => 0
set_option maxRecDepth 100000 in
set_option maxHeartbeats 800000 in
theorem sum_any (hr : RD w b s i d x) (hi : i ≤ s.size) (hh : h ≤ 15) (hs : s.size ≤ 140000) : Calls Tryd.prog 107 #[.pointer (some ⟨b, 0, none⟩), .int .i64 (h : Int)] w fun e w' => ∃ m : Nat, e = .returned (.int .i64 (m : Int)) ∧ SumP s i h b d x w m w' := by
  by_cases c : h < 15
  · have c1 : ((h : Int) == 15) = false := by simp; omega
    have HE : Hid (SumP s i h b d x w h w) := ⟨.inl ⟨i, mo_few c, hr⟩, by omega, Gs.refl _ _⟩
    clear hr
    go_enter Tryd.func107, Tryd.ntmps107
    go_wp2
    go_loopw [5, 6] (fun n m wr => n = .int .i64 (h : Int) ∧ m = .bool false ∧ wr = w) (fun _ _ _ => 0)
    case atStart => exact ⟨rfl, rfl, rfl⟩
    case round =>
      obtain ⟨rfl, rfl, rfl⟩ := hrel
      go_wp2
      go_ret
      exact ⟨h, rfl, HE.out⟩
  · obtain rfl : h = 15 := by omega
    have c1 : ((15 : Int) == 15) = true := rfl
    rw [show ((15 : Nat) : Int) = 15 from rfl]
    obtain ⟨R, hR⟩ : ∃ R, mo s i 15 = R := ⟨_, rfl⟩
    have hm := mo_on (s := s) (i := i) c
    rw [hR] at hm
    have H0 := hide (And.intro hr (And.intro hm hR))
    clear hr hm hR
    go_enter Tryd.func107, Tryd.ntmps107
    go_wp2
    go_loopw [5, 6] (fun n m wr => ∃ a : Nat, n = .int .i64 (a : Int) ∧ ((m = .bool true ∧ ∃ j : Nat, j ≤ s.size ∧ 15 ≤ a ∧ a ≤ 15 + 255 * j ∧ moG s (s.size - j) j a = R ∧ RD wr b s j d x ∧ Gs (Me b) w wr) ∨ (m = .bool false ∧ SumP s i 15 b d x w a wr))) (fun _ m wr => moreV m (szW wr b))
    case atStart => exact ⟨15, rfl, .inl ⟨rfl, i, hi, Nat.le_refl _, by omega, H0.out.2.1.symm, H0.out.1, Gs.refl _ _⟩⟩
    case round =>
      obtain ⟨a, rfl, (⟨rfl, j, hj, ha, ha2, hq, hR, hG⟩ | ⟨rfl, hP⟩)⟩ := hrel
      · have hsz := hR.szW hj
        by_cases hlt : j < s.size
        · have HN := hide (number_ok hR hlt)
          have hb := bt_lt s j
          by_cases hb1 : bt s j < 255
          · rw [moG_one hlt hb1] at hq
            obtain ⟨y, hy⟩ : ∃ y, bt s j = y := ⟨_, rfl⟩
            rw [hy] at HN hb hb1 hq
            have HQ := hide (And.intro hq hG)
            have e1 : IntKind.i64.wrap ((a : Int) + (y : Int)) = (a : Int) + (y : Int) := by rw [IntKind.wrap_i64]; omega
            have e2 : ((y : Int) == 255) = false := by simp; omega
            have e3 : (a : Int) + (y : Int) = ((a + y : Nat) : Int) := by omega
            have HE3 := hide e3
            clear hq hy hR hG e3
            go_wp2_with fail
            refine HN.out.mono ?_
            rintro _ w2 ⟨rfl, h2, hg⟩
            have HG := hide (And.intro h2 hg)
            clear h2 hg
            go_wp2
            refine ⟨⟨a + y, by rw [HE3.out], .inr ⟨rfl, .inl ⟨j + 1, ?_, HG.out.1⟩, by omega, HQ.out.2.trans HG.out.2⟩⟩, ?_⟩
            · rw [H0.out.2.2, ← HQ.out.1]
            · simp [moreV]
          · rw [moG_more hlt hb1] at hq
            obtain ⟨y, hy⟩ : ∃ y, bt s j = y := ⟨_, rfl⟩
            rw [hy] at HN hb hb1 hq
            have HQ := hide (And.intro hq hG)
            have e1 : IntKind.i64.wrap ((a : Int) + (y : Int)) = (a : Int) + (y : Int) := by rw [IntKind.wrap_i64]; omega
            have e2 : ((y : Int) == 255) = true := by simp; omega
            have e3 : (a : Int) + (y : Int) = ((a + y : Nat) : Int) := by omega
            have HE3 := hide e3
            clear hq hy hR hG e3
            go_wp2_with fail
            refine HN.out.mono ?_
            rintro _ w2 ⟨rfl, h2, hg⟩
            have HG := hide (And.intro h2 hg)
            clear h2 hg
            go_wp2
            refine ⟨⟨a + y, by rw [HE3.out], .inl ⟨rfl, j + 1, by omega, by omega, by omega, HQ.out.1, HG.out.1, HQ.out.2.trans HG.out.2⟩⟩, ?_⟩
            have := HG.out.1.szW (by omega)
            simp only [moreV]
            omega
        · obtain rfl : j = s.size := by omega
          have HN := hide (number_bad hR rfl)
          rw [moG_end (Nat.le_refl _)] at hq
          have HQ := hide (And.intro hq hG)
          have e1 : IntKind.i64.wrap (a : Int) = (a : Int) := by rw [IntKind.wrap_i64]; omega
          clear hq hR hG
          go_wp2_with fail
          refine HN.out.mono ?_
          rintro _ w2 ⟨rfl, h2, hg⟩
          have HG := hide (And.intro h2 hg)
          clear h2 hg
          go_wp2
          refine ⟨⟨a, rfl, .inr ⟨rfl, .inr ⟨?_, ha, HG.out.1⟩, by omega, HQ.out.2.trans HG.out.2⟩⟩, ?_⟩
          · rw [H0.out.2.2, ← HQ.out.1]
          · simp [moreV]
      · have HP := hide hP
        clear hP
        go_wp2
        go_ret
        exact ⟨a, rfl, HP.out⟩
end
end Go.Proofs.YtcidfkkgpehodaaDoor

namespace Go.Proofs.YtcidfkkgpehodaaDoor
/-- The sequence at a place, n bytes having been unpacked; the place behind it. -/
def stp (s : ByteArray) (i n : Nat) : Option (SQ × Nat) :=
  if i < s.size then
    match mo s (i + 1) (bt s i / 16) with
    | none => none
    | some (a, j) =>
      if s.size - j < a then none
      else if j + a = s.size then (if bt s i % 16 = 0 then some (⟨s.extract j (j + a), 0, 0⟩, s.size) else none)
      else if s.size < j + a + 2 then none
      else match mo s (j + a + 2) (bt s i % 16) with
        | none => none
        | some (b, k) => if ds s (j + a) = 0 ∨ n + a < ds s (j + a) then none else some (⟨s.extract j (j + a), ds s (j + a), b + 4⟩, k)
  else none
section
variable {s : ByteArray} {i n a j b k : Nat}
theorem st_end (h : s.size ≤ i) : stp s i n = none := if_neg (by omega)
theorem st_bad (h : i < s.size) (h1 : mo s (i + 1) (bt s i / 16) = none) : stp s i n = none := by rw [stp, if_pos h, h1]
theorem st_cut (h : i < s.size) (h1 : mo s (i + 1) (bt s i / 16) = some (a, j)) (h2 : s.size - j < a) : stp s i n = none := by
  rw [stp, if_pos h, h1]
  exact if_pos h2
theorem st_last (h : i < s.size) (h1 : mo s (i + 1) (bt s i / 16) = some (a, j)) (h2 : ¬ s.size - j < a) (h3 : j + a = s.size) : stp s i n = if bt s i % 16 = 0 then some (⟨s.extract j (j + a), 0, 0⟩, s.size) else none := by
  rw [stp, if_pos h, h1]
  show (if _ then _ else if _ then _ else _) = _
  rw [if_neg h2, if_pos h3]
theorem st_two (h : i < s.size) (h1 : mo s (i + 1) (bt s i / 16) = some (a, j)) (h2 : ¬ s.size - j < a) (h3 : ¬ j + a = s.size) (h4 : s.size < j + a + 2) : stp s i n = none := by
  rw [stp, if_pos h, h1]
  show (if _ then _ else if _ then _ else if _ then _ else _) = _
  rw [if_neg h2, if_neg h3, if_pos h4]
theorem st_bad2 (h : i < s.size) (h1 : mo s (i + 1) (bt s i / 16) = some (a, j)) (h2 : ¬ s.size - j < a) (h3 : ¬ j + a = s.size) (h4 : ¬ s.size < j + a + 2) (h5 : mo s (j + a + 2) (bt s i % 16) = none) : stp s i n = none := by
  rw [stp, if_pos h, h1]
  show (if _ then _ else if _ then _ else if _ then _ else _) = _
  rw [if_neg h2, if_neg h3, if_neg h4, h5]
theorem st_far (h : i < s.size) (h1 : mo s (i + 1) (bt s i / 16) = some (a, j)) (h2 : ¬ s.size - j < a) (h3 : ¬ j + a = s.size) (h4 : ¬ s.size < j + a + 2) (h6 : ds s (j + a) = 0 ∨ n + a < ds s (j + a)) : stp s i n = none := by
  rw [stp, if_pos h, h1]
  show (if _ then _ else if _ then _ else if _ then _ else _) = _
  rw [if_neg h2, if_neg h3, if_neg h4]
  cases mo s (j + a + 2) (bt s i % 16) with
  | none => rfl
  | some r => exact if_pos h6
theorem st_go (h : i < s.size) (h1 : mo s (i + 1) (bt s i / 16) = some (a, j)) (h2 : ¬ s.size - j < a) (h3 : ¬ j + a = s.size) (h4 : ¬ s.size < j + a + 2) (h5 : mo s (j + a + 2) (bt s i % 16) = some (b, k)) (h6 : ¬ (ds s (j + a) = 0 ∨ n + a < ds s (j + a))) :
    stp s i n = some (⟨s.extract j (j + a), ds s (j + a), b + 4⟩, k) := by
  rw [stp, if_pos h, h1]
  show (if _ then _ else if _ then _ else if _ then _ else _) = _
  rw [if_neg h2, if_neg h3, if_neg h4, h5]
  exact if_neg h6
/-- The sequences are those of the steps. -/
theorem pq_stp (s : ByteArray) (i n : Nat) : pq s i n = match stp s i n with
    | none => none
    | some (q, k) => if q.long = 0 then some ([q], n + q.lit.size) else (pq s k (n + q.lit.size + q.long)).map fun r => (q :: r.1, r.2) := by
  by_cases h : i < s.size
  · cases h1 : mo s (i + 1) (bt s i / 16) with
    | none => rw [pq_bad h h1, st_bad h h1]
    | some r =>
      obtain ⟨a, j⟩ := r
      have g1 := mo_spec (by omega) h1
      by_cases h2 : s.size - j < a
      · rw [pq_cut h h1 h2, st_cut h h1 h2]
      · have hx : (s.extract j (j + a)).size = a := by rw [ByteArray.size_extract]; omega
        by_cases h3 : j + a = s.size
        · rw [pq_last h h1 h2 h3, st_last h h1 h2 h3]
          split
          · show _ = if 0 = 0 then some ([_], n + (s.extract j (j + a)).size) else _
            rw [if_pos rfl, hx]
          · rfl
        · by_cases h4 : s.size < j + a + 2
          · rw [pq_two h h1 h2 h3 h4, st_two h h1 h2 h3 h4]
          · cases h5 : mo s (j + a + 2) (bt s i % 16) with
            | none => rw [pq_bad2 h h1 h2 h3 h4 h5, st_bad2 h h1 h2 h3 h4 h5]
            | some r =>
              obtain ⟨b, k⟩ := r
              by_cases h6 : ds s (j + a) = 0 ∨ n + a < ds s (j + a)
              · rw [pq_far h h1 h2 h3 h4 h5 h6, st_far h h1 h2 h3 h4 h6]
              · rw [pq_go h h1 h2 h3 h4 h5 h6, st_go h h1 h2 h3 h4 h5 h6]
                show _ = if b + 4 = 0 then _ else (pq s k (n + (s.extract j (j + a)).size + (b + 4))).map _
                rw [if_neg (by omega), hx]
  · rw [pq_end (by omega), st_end (by omega)]
theorem stp_spec {q : SQ} (h : stp s i n = some (q, k)) : i < k ∧ k ≤ s.size ∧ q.lit.size ≤ s.size - i ∧ q.lit.size + q.long ≤ 289 * (k - i) ∧ q.dist ≤ 65535 ∧ (q.long = 0 → q.dist = 0 ∧ k = s.size) ∧ (¬ q.long = 0 → 4 ≤ q.long ∧ 1 ≤ q.dist ∧ q.dist ≤ n + q.lit.size) := by
  by_cases hi : i < s.size
  · cases h1 : mo s (i + 1) (bt s i / 16) with
    | none => rw [st_bad hi h1] at h; cases h
    | some r =>
      obtain ⟨a, j⟩ := r
      have g1 := mo_spec (by omega) h1
      have hb := bt_lt s i
      by_cases h2 : s.size - j < a
      · rw [st_cut hi h1 h2] at h; cases h
      · have hx : (s.extract j (j + a)).size = a := by rw [ByteArray.size_extract]; omega
        by_cases h3 : j + a = s.size
        · rw [st_last hi h1 h2 h3] at h
          split at h
          · simp only [Option.some.injEq, Prod.mk.injEq] at h
            obtain ⟨rfl, rfl⟩ := h
            simp only [hx]
            exact ⟨by omega, by omega, by omega, by omega, by omega, fun _ => by simp, fun h => absurd trivial h⟩
          · cases h
        · by_cases h4 : s.size < j + a + 2
          · rw [st_two hi h1 h2 h3 h4] at h; cases h
          · cases h5 : mo s (j + a + 2) (bt s i % 16) with
            | none => rw [st_bad2 hi h1 h2 h3 h4 h5] at h; cases h
            | some r =>
              obtain ⟨b, k2⟩ := r
              have g2 := mo_spec (by omega) h5
              by_cases h6 : ds s (j + a) = 0 ∨ n + a < ds s (j + a)
              · rw [st_far hi h1 h2 h3 h4 h6] at h; cases h
              · rw [st_go hi h1 h2 h3 h4 h5 h6] at h
                simp only [Option.some.injEq, Prod.mk.injEq] at h
                obtain ⟨rfl, rfl⟩ := h
                have d1 := bt_lt s (j + a)
                have d2 := bt_lt s (j + a + 1)
                have d3 : ds s (j + a) ≤ 65535 := by rw [ds]; omega
                simp only [hx]
                exact ⟨by omega, by omega, by omega, by omega, d3, fun h => absurd h (by omega), fun _ => ⟨by omega, by omega, by omega⟩⟩
  · rw [st_end (by omega)] at h; cases h
/-- All sequences, up to the first that is wrong; is none? -/
def wkG (s : ByteArray) : Nat → Nat → Nat → List SQ × Bool
  | 0, _, _ => ([], false)
  | f + 1, i, n => match stp s i n with
    | none => ([], false)
    | some (q, k) => if q.long = 0 then ([q], true) else (q :: (wkG s f k (n + q.lit.size + q.long)).1, (wkG s f k (n + q.lit.size + q.long)).2)
def wk (s : ByteArray) (i n : Nat) : List SQ × Bool := wkG s (s.size - i) i n
theorem wkG_enough : ∀ (f f' i n : Nat), s.size - i ≤ f → s.size - i ≤ f' → wkG s f i n = wkG s f' i n
  | 0, 0, _, _, _, _ => rfl
  | 0, f' + 1, i, n, h, _ => by rw [wkG, wkG, st_end (by omega)]
  | f + 1, 0, i, n, _, h => by rw [wkG, wkG, st_end (by omega)]
  | f + 1, f' + 1, i, n, h1, h2 => by
    rw [wkG, wkG]
    cases hm : stp s i n with
    | none => rfl
    | some r =>
      obtain ⟨q, k⟩ := r
      have := stp_spec hm
      simp only
      rw [wkG_enough f f' k _ (by omega) (by omega)]
theorem wk_one (s : ByteArray) (i n : Nat) : wk s i n = match stp s i n with
    | none => ([], false)
    | some (q, k) => if q.long = 0 then ([q], true) else (q :: (wk s k (n + q.lit.size + q.long)).1, (wk s k (n + q.lit.size + q.long)).2) := by
  by_cases h : i < s.size
  · rw [wk, show s.size - i = (s.size - (i + 1)) + 1 by omega, wkG]
    cases hm : stp s i n with
    | none => rfl
    | some r =>
      obtain ⟨q, k⟩ := r
      have := stp_spec hm
      simp only
      rw [wkG_enough (s.size - (i + 1)) (s.size - k) k _ (by omega) (Nat.le_refl _)]
      rfl
  · rw [st_end (by omega), wk, show s.size - i = 0 by omega]
    rfl
theorem wk_no (h : stp s i n = none) : wk s i n = ([], false) := by rw [wk_one, h]
theorem wk_last {q : SQ} (h : stp s i n = some (q, k)) (h0 : q.long = 0) : wk s i n = ([q], true) := by
  rw [wk_one, h]
  exact if_pos h0
theorem wk_go {q : SQ} (h : stp s i n = some (q, k)) (h0 : ¬ q.long = 0) : wk s i n = (q :: (wk s k (n + q.lit.size + q.long)).1, (wk s k (n + q.lit.size + q.long)).2) := by
  rw [wk_one, h]
  exact if_neg h0
def sqn (l : List SQ) : Nat := (l.map fun q => q.lit.size + q.long).sum
theorem sqn_cons (q : SQ) (l : List SQ) : sqn (q :: l) = q.lit.size + q.long + sqn l := by simp [sqn]
theorem pq_wk : ∀ (f i n : Nat), s.size - i ≤ f → pq s i n = if (wk s i n).2 = true then some ((wk s i n).1, n + sqn (wk s i n).1) else none
  | f, i, n, hf => by
    rw [pq_stp]
    cases hm : stp s i n with
    | none => rw [wk_no hm]; rfl
    | some r =>
      obtain ⟨q, k⟩ := r
      have hsp := stp_spec hm
      simp only
      by_cases h0 : q.long = 0
      · rw [if_pos h0, wk_last hm h0]
        simp [sqn, h0]
      · rw [if_neg h0, wk_go hm h0]
        match f, hf with
        | 0, hf => omega
        | f + 1, hf =>
          rw [pq_wk f k _ (by omega)]
          split
          · simp only [Option.map_some]
            rw [sqn_cons]
            congr 2
            omega
          · rfl
theorem ps_wk (s : ByteArray) : ps s = if (wk s 0 0).2 = true then some ((wk s 0 0).1, sqn (wk s 0 0).1) else none := by
  rw [ps, pq_wk s.size 0 0 (by omega), Nat.zero_add]
end
end Go.Proofs.YtcidfkkgpehodaaDoor

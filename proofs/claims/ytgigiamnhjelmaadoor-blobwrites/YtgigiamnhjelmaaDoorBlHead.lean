/-
  Blob: what stands ahead of a text, as the program reads it.
-/
import Derived.Test.YtgigiamnhjelmaaDoorBlRow
import Derived.Test.YtgigiamnhjelmaaDoorLpRead
namespace Go.Proofs.YtgigiamnhjelmaaDoor
open Go.RowKit Go.Lib
/-- A kind, without the bit that tells whether it is packed. -/
def kd (a : Nat) : Nat := if a / 16 % 2 = 1 then a - 16 else a
theorem kd_not_fin : ∀ a : Fin 256, bits .andNot .i64 (a.val : Int) 16 = ((kd a.val : Nat) : Int) := by decide +kernel
theorem kd_and_fin : ∀ a : Fin 256, bits .and .i64 (a.val : Int) 16 = if a.val / 16 % 2 = 1 then 16 else 0 := by decide +kernel
theorem kn_kd_fin : ∀ a : Fin 256, kn ((kd a.val : Nat) : Int) = (kn (a.val : Int) || kn ((a.val : Int) - 16)) := by decide +kernel
theorem kd_not {a : Nat} (h : a < 256) : bits .andNot .i64 (a : Int) 16 = ((kd a : Nat) : Int) := kd_not_fin ⟨a, h⟩
theorem kd_and {a : Nat} (h : a < 256) : bits .and .i64 (a : Int) 16 = if a / 16 % 2 = 1 then 16 else 0 := kd_and_fin ⟨a, h⟩
theorem kn_kd {a : Nat} (h : a < 256) : kn ((kd a : Nat) : Int) = (kn (a : Int) || kn ((a : Int) - 16)) := kn_kd_fin ⟨a, h⟩
/-- What the three questions find: the first byte, the length, all the rest. -/
def h1 (s : ByteArray) : Zq.Nm.Ah := Zq.Nm.asked 0 (Zq.Nm.fixedA s 0 1)
def p1 (s : ByteArray) : Nat := 0 + (h1 s).long
def h2 (s : ByteArray) : Zq.Nm.Ah := Zq.Nm.asked (h1 s).code (Zq.Nm.shortA s (p1 s) 65536)
def p2 (s : ByteArray) : Nat := p1 s + (h2 s).long
def h3 (s : ByteArray) : Zq.Nm.Ah := Zq.Nm.asked (h2 s).code (Zq.Nm.bytesA s (p2 s) ((s.size : Int) - (p2 s : Int)))
theorem heads (s : ByteArray) : (h1 s).num < 256 ∧ p1 s ≤ s.size ∧ p2 s ≤ s.size ∧ (okH s = (decide ((h3 s).code = 0) && kn ((kd (h1 s).num : Nat) : Int))) ∧
    (okH s = true → (h1 s).num = fb s ∧ (h2 s).num = lnB s ∧ (h3 s).txt = s.extract (atB s) s.size) := by
  by_cases h0 : s.size = 0
  · have e1 : h1 s = .bad 10 := by rw [h1, Zq.Nm.asked_zero, Zq.Nm.fixedA, if_neg (by omega), if_pos (by omega)]
    have q1 : p1 s = 0 := by rw [p1, e1]; rfl
    have e2 : h2 s = .bad 10 := by rw [h2, e1]; exact Zq.Nm.asked_some (by decide) _
    have q2 : p2 s = 0 := by rw [p2, q1, e2]; rfl
    have e3 : h3 s = .bad 10 := by rw [h3, e2]; exact Zq.Nm.asked_some (by decide) _
    have ho := ok_no1 h0
    refine ⟨?_, by omega, by omega, ?_, fun h => absurd (ho.symm.trans h) (by decide)⟩
    · rw [e1]; decide
    · rw [ho, e3]; rfl
  · have hx : (s.extract 0 1).data.toList = [s.data.toList.getD 0 0] := by
      have hl : s.data.toList.length = s.size := by rw [ByteArray.size, Array.length_toList]
      rw [ByteArray.data_extract, Array.toList_extract, List.extract_eq_take_drop, List.drop_zero]
      match h : s.data.toList, hl with
      | [], hl => simp at hl; omega
      | a :: r, _ => rfl
    have hnum : Zq.Nm.numOf (s.extract 0 1).data.toList = bt s 0 := by
      rw [hx, Zq.Nm.numOf, List.foldl_cons, List.foldl_nil, Nat.zero_mul, Nat.zero_add]
      exact bt_lst s 0
    have e1 : h1 s = ⟨bt s 0, ⟨#[]⟩, 1, 0⟩ := by
      rw [h1, Zq.Nm.asked_zero, Zq.Nm.fixedA, if_neg (by omega), if_neg (by omega)]
      show (⟨Zq.Nm.numOf (s.extract 0 1).data.toList, ⟨#[]⟩, 1, 0⟩ : Zq.Nm.Ah) = _
      rw [hnum]
    have q1 : p1 s = 1 := by rw [p1, e1]; rfl
    have e2 : h2 s = hdA s := by rw [h2, e1, q1, hdA]; exact Zq.Nm.asked_zero _
    have hf : (h1 s).num = fb s := by rw [e1]; rfl
    have hlt : (h1 s).num < 256 := by rw [e1]; exact bt_lt s 0
    have hkk := kn_kd hlt
    refine ⟨hlt, by omega, ?_⟩
    rcases Zq.Nm.shortA_cases s 1 65536 (by omega) with ⟨c, hc, e⟩ | ⟨n, l, e, a1, a2, a3⟩
    · have e3 : hdA s = .bad c := e
      have q2 : p2 s = 1 := by rw [p2, q1, e2, e3]; rfl
      have e4 : h3 s = .bad c := by rw [h3, e2, e3]; exact Zq.Nm.asked_some hc _
      have ho := ok_no3 e3 hc
      refine ⟨by omega, ?_, fun h => absurd (ho.symm.trans h) (by decide)⟩
      rw [ho, e4]
      have : decide ((Zq.Nm.Ah.bad c).code = 0) = false := decide_eq_false hc
      rw [this, Bool.false_and]
    · have e3 : hdA s = ⟨n, ⟨#[]⟩, l, 0⟩ := e
      have q2 : p2 s = 1 + l := by rw [p2, q1, e2, e3]
      have e4 : h3 s = ⟨0, s.extract (1 + l) s.size, s.size - (1 + l), 0⟩ := by
        rw [h3, e2, e3, q2]
        show Zq.Nm.asked 0 _ = _
        rw [Zq.Nm.asked_zero, Zq.Nm.bytesA, if_neg (by omega), if_neg (by omega), show ((s.size : Int) - ((1 + l : Nat) : Int)).toNat = s.size - (1 + l) by omega, show 1 + l + (s.size - (1 + l)) = s.size by omega]
      refine ⟨by omega, ?_, fun h => ⟨hf, ?_, ?_⟩⟩
      · rw [okH, hkk, e3, e4, hf]
        have k1 : decide (0 < s.size) = true := decide_eq_true (by omega)
        rw [k1, Bool.true_and, Bool.and_comm]
        rfl
      · rw [e2, lnB, if_pos h]
      · rw [e4, atB, if_pos h, e3]
/-- The head that is read. -/
def hdV (s : ByteArray) : Value := .agg #[.int .i64 (((h1 s).num : Nat) : Int), .int .i64 (((h2 s).num : Nat) : Int), .string (h3 s).txt]
set_option maxRecDepth 100000 in
theorem kind_any {w : World} {f : Nat} (hf : f < 256) (n : Int) (t : ByteArray) : Calls Tryd.prog 25 #[.agg #[.int .i64 (f : Int), .int .i64 n, .string t]] w fun e w' => e = .returned (.int .i64 ((kd f : Nat) : Int)) ∧ Below w.heap.size w w' := by
  have hk := kd_not hf
  obtain ⟨k, hkk⟩ : ∃ k, kd f = k := ⟨_, rfl⟩
  rw [hkk] at hk ⊢
  have HB := hide (below_al (Below.refl w.heap.size w))
  go_enter Tryd.func25, Tryd.ntmps25
  go_wp2
  go_ret
  exact ⟨rfl, HB.out _⟩
theorem known_any (k : Int) (w : World) : Calls Tryd.prog 29 #[.int .i64 k] w fun e w' => e = .returned (.bool (kn k)) ∧ w' = w := by
  by_cases h1 : k = 1
  · subst h1
    go_enter Tryd.func29, Tryd.ntmps29
    go_wp2
    go_ret
    exact ⟨rfl, rfl⟩
  · by_cases h2 : k = 2
    · subst h2
      go_enter Tryd.func29, Tryd.ntmps29
      go_wp2
      go_ret
      exact ⟨rfl, rfl⟩
    · have c1 : (k == 1) = false := by simpa using h1
      have c2 : (k == 2) = false := by simpa using h2
      have e : kn k = false := by simp [kn, c1, c2]
      rw [e]
      clear h1 h2
      go_enter Tryd.func29, Tryd.ntmps29
      go_wp2
      go_ret
      exact ⟨rfl, rfl⟩
theorem known_call {k : Int} {b : Bool} (h : kn k = b) (w : World) : Calls Tryd.prog 29 #[.int .i64 k] w fun e w' => e = .returned (.bool b) ∧ w' = w := h ▸ known_any k w
end Go.Proofs.YtgigiamnhjelmaaDoor

/-
  The contracts of Add and of the loop that adds products; and of the document's own.
-/
import Derived.Test.YtcgiolehlokpnaaBytes
import Derived.Test.YtcgiolehlokpnaaReckon
import Derived.Test.YtcgiolehlokpnaaRef
namespace Go.Proofs.Ytcgiolehlokpnaa
open Go.RowKit Go.Lib

theorem ix (s : ByteArray) (j : Nat) (h : j < s.size) (w : World) : (Instr.index 9 (.string s) (.int .i64 (j : Int))).run Try.prog w = .ok (.int .u8 (((s.data.toList[j]'(by rw [← Lib.size_eq]; exact h)).toNat : Nat) : Int)) w := by
  rw [run_index_string w 9 s .i64 j Try.underlying9, dif_pos ⟨by omega, by omega⟩]
  rfl
theorem ix2 {s : ByteArray} {j : Nat} {y : UInt8} (h : s.data.toList[j]? = some y) (w : World) : (Instr.index 9 (.string s) (.int .i64 (j : Int))).run Try.prog w = .ok (.int .u8 ((y.toNat : Nat) : Int)) w := by
  obtain ⟨hj, rfl⟩ := List.getElem?_eq_some_iff.1 h
  exact ix s j (by rw [Lib.size_eq]; exact hj) w
theorem xorL_get (a b : List UInt8) (h : a.length = b.length) (j : Nat) (hj : j < a.length) : (xorL a b)[j]'(by rw [xorL_length a b h]; exact hj) = a[j] ^^^ b[j]'(by omega) := by simp [xorL]
theorem u8_xor (x y : UInt8) : bits .xor .u8 (x.toNat : Int) (y.toNat : Int) = (((x ^^^ y).toNat : Nat) : Int) := by rw [xor_u8 _ _ x.toNat_lt y.toNat_lt, UInt8.toNat_xor]
theorem Try.info5 : (Try.prog.info? 5).map (fun i => (i.zero, i.size, i.bytes)) = some (some (.int .u8 0), 1, 1) := by kernel_rfl

/-- A round of a loop that fills a row. -/
theorem BR.step {w0 w : World} {B g j : Nat} {R L : List UInt8} (hl : R.length = L.length) (hj : j < L.length) (h : BR w g (st R L j)) (hb : Below B w0 w) (hB : B ≤ g) :
    BR (w.setCell ⟨g, j, none⟩ (.int .u8 (((R[j]'(by omega)).toNat : Nat) : Int))) g (st R L (j + 1)) ∧ Below B w0 (w.setCell ⟨g, j, none⟩ (.int .u8 (((R[j]'(by omega)).toNat : Nat) : Int))) := by
  have := h.set j (by rw [st_length R L hl]; exact hj) (R[j]'(by omega))
  rw [st_set R L hl j hj] at this
  exact ⟨this, hb.setCell hB _⟩

set_option maxRecDepth 100000 in
set_option maxHeartbeats 400000 in
theorem add_ok (a b : ByteArray) (hs : a.size = b.size) (hm : a.size ≤ 140737488355328) (w : World) :
    Calls Try.prog 23 #[.string a, .string b] w fun e w' => e = .returned (.tuple #[.string (strOf (xorL a.data.toList b.data.toList)), .int .i64 0]) ∧ Below w.heap.size w w' := by
  have hl : a.data.toList.length = b.data.toList.length := by rw [← Lib.size_eq, ← Lib.size_eq, hs]
  have hconv := run_bytes_of_string (P := Try.prog) w 9 70 5 a Try.underlying9 Try.underlying70 Try.underlying5
  have hge := grownCap_ge w a.size 0 5
  generalize grownCap w a.size 0 5 = cap at *
  have hB0 : BR (w.drew.alloc (.cells (bytesRow a cap) 5 ((bytesRow a cap).size, (bytesRow a cap).size + 1))) w.heap.size a.data.toList := BR.turned a cap _ hge rfl (heap_alloc_new w.drew _)
  have hb0 : Below w.heap.size w (w.drew.alloc (.cells (bytesRow a cap) 5 ((bytesRow a cap).size, (bytesRow a cap).size + 1))) := (Below.refl _ _).drew.alloc (Nat.le_refl _) _
  have hla : a.data.toList.length = a.size := (Lib.size_eq a).symm
  obtain ⟨R, hRl, hget, hR⟩ : ∃ (R : List UInt8) (hRl : R.length = a.data.toList.length), (∀ (j : Nat) (hj : j < a.data.toList.length), R[j]'(by omega) = a.data.toList[j] ^^^ b.data.toList[j]'(by omega)) ∧ xorL a.data.toList b.data.toList = R := ⟨_, xorL_length _ _ hl, xorL_get _ _ hl, rfl⟩
  rw [hR]
  clear hR
  have hne : ((a.size : Int) != (b.size : Int)) = false := by simp [hs]
  have HSZ : Hid _ := hs
  have HLL : Hid _ := hl
  clear hs
  go_enter Try.func23, Try.ntmps23
  go_wp2
  go_loopw [17] (fun i wr => ∃ j : Nat, j ≤ a.size ∧ i = .int .i64 j ∧ BR wr w.heap.size (st R a.data.toList j) ∧ Below w.heap.size w wr) (fun i _ => a.size - (intOf i).toNat)
  case atStart => exact ⟨0, Nat.zero_le _, rfl, by rw [st_zero]; exact hB0, hb0⟩
  case round =>
    clear hB0 hb0 hconv
    obtain ⟨j, hj, rfl, hB, hb⟩ := hrel
    by_cases hlt : j < a.size
    · have hjl : j < a.data.toList.length := by omega
      have cj := hB.cell j _ (st_get R a.data.toList hRl j hjl)
      have hf := hB.free j (by rw [st_length _ _ hRl]; exact hjl)
      have hix := ix b j (by have := HSZ.out; omega)
      have S := BR.step hRl hjl hB hb (Nat.le_refl _)
      have hx := u8_xor (a.data.toList[j]) (b.data.toList[j]'(by omega))
      rw [← hget j hjl] at hx
      have HS : Hid _ := S
      clear S hB hb hget
      generalize a.data.toList[j] = x at *
      generalize b.data.toList[j] = y at *
      generalize R[j] = z at *
      have b0 : (0 : Int) ≤ (j : Int) := by omega
      have b1 : (j : Int) < (a.size : Int) := by omega
      go_wp2
      go_region
      go_wp2
      go_roundw
      case rel => exact ⟨j + 1, by omega, by go_num, HS.out.1, HS.out.2.drew⟩
      case measure => simp [intOf]; omega
    · obtain rfl : j = a.size := by omega
      have e := st_all R a.data.toList hRl
      rw [hla] at e
      rw [e] at hB
      have hstr := hB.str_all cap a.size (by omega)
      go_wp2
      go_ret2
      exact ⟨rfl, hb⟩
theorem add_bad (a b : ByteArray) (hs : a.size ≠ b.size) (w : World) :
    Calls Try.prog 23 #[.string a, .string b] w fun e w' => e = .returned (.tuple #[.string ⟨#[]⟩, .int .i64 4]) ∧ w' = w := by
  have h : ((a.size : Int) != (b.size : Int)) = true := by simp; omega
  go_enter Try.func23, Try.ntmps23
  go_wp2
  go_ret2
  exact ⟨rfl, rfl⟩
end Go.Proofs.Ytcgiolehlokpnaa

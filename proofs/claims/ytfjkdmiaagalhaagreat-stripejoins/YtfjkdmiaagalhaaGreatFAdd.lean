/-
  The contracts of Add and of the loop that adds products; and of the document's own.
-/
import Derived.Test.YtfjkdmiaagalhaaGreatFBytes
import Derived.Test.YtfjkdmiaagalhaaGreatReckon
import Derived.Test.YtfjkdmiaagalhaaGreatFRef
namespace Go.Proofs.YtfjkdmiaagalhaaGreat.Fd
open Go.RowKit Go.Lib

theorem ix (s : ByteArray) (j : Nat) (h : j < s.size) (w : World) : (Instr.index 9 (.string s) (.int .i64 (j : Int))).run Tryz.prog w = .ok (.int .u8 (((s.data.toList[j]'(by rw [← Lib.size_eq]; exact h)).toNat : Nat) : Int)) w := by
  rw [run_index_string w 9 s .i64 j Tryz.underlying9, dif_pos ⟨by omega, by omega⟩]
  rfl
theorem ix2 {s : ByteArray} {j : Nat} {y : UInt8} (h : s.data.toList[j]? = some y) (w : World) : (Instr.index 9 (.string s) (.int .i64 (j : Int))).run Tryz.prog w = .ok (.int .u8 ((y.toNat : Nat) : Int)) w := by
  obtain ⟨hj, rfl⟩ := List.getElem?_eq_some_iff.1 h
  exact ix s j (by rw [Lib.size_eq]; exact hj) w
theorem xorL_get (a b : List UInt8) (h : a.length = b.length) (j : Nat) (hj : j < a.length) : (xorL a b)[j]'(by rw [xorL_length a b h]; exact hj) = a[j] ^^^ b[j]'(by omega) := by simp [xorL]
theorem u8_xor (x y : UInt8) : bits .xor .u8 (x.toNat : Int) (y.toNat : Int) = (((x ^^^ y).toNat : Nat) : Int) := by rw [xor_u8 _ _ x.toNat_lt y.toNat_lt, UInt8.toNat_xor]
theorem Tryz.info5 : (Tryz.prog.info? 5).map (fun i => (i.zero, i.size, i.bytes)) = some (some (.int .u8 0), 1, 1) := by kernel_rfl

/-- A round of a loop that fills a row. -/
theorem BR.step {w0 w : World} {B g j : Nat} {R L : List UInt8} (hl : R.length = L.length) (hj : j < L.length) (h : BR w g (st R L j)) (hb : Below B w0 w) (hB : B ≤ g) :
    BR (w.setCell ⟨g, j, none⟩ (.int .u8 (((R[j]'(by omega)).toNat : Nat) : Int))) g (st R L (j + 1)) ∧ Below B w0 (w.setCell ⟨g, j, none⟩ (.int .u8 (((R[j]'(by omega)).toNat : Nat) : Int))) := by
  have := h.set j (by rw [st_length R L hl]; exact hj) (R[j]'(by omega))
  rw [st_set R L hl j hj] at this
  exact ⟨this, hb.setCell hB _⟩

end Go.Proofs.YtfjkdmiaagalhaaGreat.Fd

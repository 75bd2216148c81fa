/-
  Lz: the statement LzPacks, walked: over what the program's Bound, Pack and Unpack answer.
-/
import Derived.Test.YtgigiamnhjelmaaDoorLzLaw1
namespace Go.Proofs.YtgigiamnhjelmaaDoor
open Go.RowKit Go.Lib
/-- A way to pack bytes, that is unpacked to them. -/
structure PackF (pk : ByteArray → ByteArray) : Prop where
  back : ∀ s : ByteArray, s.size ≤ 1048576 → ∃ l, ps (pk s) = some (l, s.size) ∧ (⟨(opn l []).toArray⟩ : ByteArray) = s
  size : ∀ s : ByteArray, s.size ≤ 1048576 → (pk s).size ≤ s.size + s.size / 255 + 16
def pkV (pk : ByteArray → ByteArray) (s : ByteArray) : Value := if s.size ≤ 1048576 then .tuple #[.string (pk s), .int .i64 0] else .tuple #[.string ⟨#[]⟩, .int .i64 2]
/-- What Pack of the program answers, where K holds. -/
def PackC (K : World → Prop) (pk : ByteArray → ByteArray) : Prop := ∀ (w : World) (s : ByteArray), K w → s.size ≤ 5000 ∨ 1048576 < s.size → s.size ≤ 4611686018427387904 → Calls Tryd.prog 17 #[.string s] w fun e w' => e = .returned (pkV pk s) ∧ Below w.heap.size w w'
theorem bdA_is (n : Int) : ∃ a b : Int, bdA n = .tuple #[.int .i64 a, .int .i64 b] := by rw [bdA]; split; exact ⟨_, _, rfl⟩; exact ⟨_, _, rfl⟩
theorem PackF.up {pk : ByteArray → ByteArray} (h : PackF pk) {s : ByteArray} (hs : s.size ≤ 1048576) : upS (pk s) (s.size : Int) = s ∧ upC (pk s) (s.size : Int) = 0 := by
  obtain ⟨l, h1, h2⟩ := h.back s hs
  obtain ⟨a, b⟩ := up_ok (s := pk s) (n := (s.size : Int)) (by omega) h1 rfl
  exact ⟨a.trans h2, b⟩
section
variable {K : World → Prop} {pk : ByteArray → ByteArray}
end
end Go.Proofs.YtgigiamnhjelmaaDoor

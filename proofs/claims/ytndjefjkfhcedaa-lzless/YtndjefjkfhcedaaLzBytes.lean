/-
  Lz: bytes of one's own in memory: a text behind them, a byte behind them, what they are as a text.
-/
import Derived.Test.YtndjefjkfhcedaaPoRow
import Derived.Test.YtndjefjkfhcedaaLzMath
import Derived.Laws.IdiomStrings
import Derived.Laws.BytesArg
import Derived.Lib.AppendStr
namespace Go.Proofs.Ytndjefjkfhcedaa
open Go.RowKit Go.Lib
theorem Try.infoU8 : (Try.prog.info? 5).map (fun i => (i.zero, i.size, i.bytes)) = some (some (.int .u8 0), 1, 1) := by kernel_rfl
/-- A byte's cell. -/
def bc (b : UInt8) : List Value := [.int .u8 (b.toNat : Int)]
theorem bc_len (b : UInt8) : (bc b).length = 1 := rfl
theorem bc_flat (O : List UInt8) : O.flatMap bc = O.map fun b => Value.int .u8 (b.toNat : Int) := by
  induction O with
  | nil => rfl
  | cons b r ih => rw [List.flatMap_cons, ih]; rfl
abbrev BO (B : Nat) (v : Value) (O : List UInt8) (w : World) : Prop := OW bc 1 5 B v O w
section
variable {B : Nat} {v : Value} {O : List UInt8} {w : World}
theorem BO.text (h : BO B v O w) (s : ByteArray) (hl : O.length + s.size ≤ 140737488355328) (hB : B ≤ w.heap.size) :
    ∃ v' w', (Builtin.append_ #[43, 9] 43 #[v, .string s]).run Try.prog w = .ok v' w' ∧ BO B v' (O ++ s.data.toList) w' ∧ w.grownBy w' v.ownBlock := by
  obtain ⟨i0, hi, hz0, hz1, hz2⟩ := info_parts Try.infoU8
  obtain ⟨v', w', h1, h2, h3, _⟩ := run_append_own_string (P := Try.prog) (w := w) B 43 9 43 5 i0 Try.underlying43 Try.underlying9 hi hz0 hz1 hz2 v O.length (O.flatMap bc) h.own s (by unfold maxLen; omega) hl hB
  have e : s.data.toList.length = s.size := by simp
  exact ⟨v', w', h1, ⟨by rw [List.length_append, e, List.flatMap_append, bc_flat s.data.toList]; exact h2⟩, h3⟩
theorem BO.one (h : BO B v O w) (b : UInt8) (hl : O.length + 1 ≤ 100000000) (hB : B ≤ w.heap.size) :
    ∃ v' w', (Builtin.append_ #[43, 43] 43 #[v, .slice (some ⟨w.heap.size, 0, none⟩) 1 1]).run Try.prog (w.alloc (.cells #[.int .u8 (b.toNat : Int)] 5)) = .ok v' w' ∧ BO B v' (O ++ [b]) w' ∧ (w.alloc (.cells #[.int .u8 (b.toNat : Int)] 5)).grownBy w' v.ownBlock := by
  have hb1 : Below w.heap.size w (w.alloc (.cells #[.int .u8 (b.toNat : Int)] 5)) := (Below.refl _ _).alloc (Nat.le_refl _) _
  have hS : LS bc 1 (fun _ => True) (w.alloc (.cells #[.int .u8 (b.toNat : Int)] 5)) (.slice (some ⟨w.heap.size, 0, none⟩) 1 1) [b] := LS.one b 5 w bc 1 (fun _ => True) trivial
  obtain ⟨v', w2, h1, h2, h3, _⟩ := (h.keep hb1).app bc_len (by decide) (fun x hx u hu => by
    simp [bc] at hu
    subst hu
    rfl) Try.underlying43 Try.infoU8 rfl hS (by simp; omega) (by simp; omega) (Nat.le_trans hB hb1.size)
  exact ⟨v', w2, h1, h2, h3⟩
theorem BO.str (h : BO B v O w) : (convert 43 9 v).run Try.prog w = .ok (.string ⟨O.toArray⟩) w := by
  obtain ⟨_, ⟨rfl, h2⟩ | ⟨g, cap, cur, rfl, hB, hg, hn, _, hs, ht⟩⟩ := h.own
  · rw [List.length_eq_zero_iff.1 h2]
    exact run_convert_bytes_nil w 43 5 Try.underlying43 Try.underlying5 0 0 9 Try.underlying9
  · refine run_convert_bytes_back w 43 9 5 ⟨g, 0, none⟩ cap O Try.underlying43 Try.underlying5 Try.underlying9 (fun j hj => ?_)
    rw [Addr.add_mid, Nat.zero_add, cell_of_row w g _ _ _ _ hg]
    have e0 : (O.flatMap bc)[j]? = some (.int .u8 (O[j].toNat : Int)) := by rw [bc_flat, List.getElem?_map, List.getElem?_eq_getElem hj]; rfl
    rw [← ht, List.getElem?_take, if_pos (by omega)] at e0
    simpa using e0
/-- A byte of them, as it lies there. -/
theorem BO.cell (h : BO B v O w) {j : Nat} (hj : j < O.length) : ∃ g c, v = .slice (some ⟨g, 0, none⟩) O.length c ∧ w.cell? ⟨g, j, none⟩ = some (.int .u8 ((O.getD j 0).toNat : Int)) := by
  obtain ⟨_, ⟨rfl, h2⟩ | ⟨g, cap, cur, rfl, hB, hg, hn, _, hs, ht⟩⟩ := h.own
  · omega
  · refine ⟨g, cap, rfl, ?_⟩
    rw [cell_of_row w g _ _ _ _ hg]
    have e0 : (O.flatMap bc)[j]? = some (.int .u8 ((O.getD j 0).toNat : Int)) := by rw [bc_flat, List.getElem?_map, List.getD_eq_getElem?_getD, List.getElem?_eq_getElem hj]; rfl
    rw [← ht, List.getElem?_take, if_pos (by omega)] at e0
    simpa using e0
end
end Go.Proofs.Ytndjefjkfhcedaa

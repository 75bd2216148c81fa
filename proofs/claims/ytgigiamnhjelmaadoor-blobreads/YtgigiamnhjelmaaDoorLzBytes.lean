/-
  Lz: bytes of one's own in memory: a text behind them, a byte behind them, what they are as a text.
-/
import Derived.Test.YtgigiamnhjelmaaDoorPoRow
import Derived.Test.YtgigiamnhjelmaaDoorLzMath
import Derived.Laws.IdiomStrings
import Derived.Laws.BytesArg
import Derived.Lib.AppendStr
namespace Go.Proofs.YtgigiamnhjelmaaDoor
open Go.RowKit Go.Lib
theorem Tryd.infoU8 : (Tryd.prog.info? 5).map (fun i => (i.zero, i.size, i.bytes)) = some (some (.int .u8 0), 1, 1) := by kernel_rfl
/-- A byte's cell. -/
def bc (b : UInt8) : List Value := [.int .u8 (b.toNat : Int)]
theorem bc_len (b : UInt8) : (bc b).length = 1 := rfl
theorem bc_flat (O : List UInt8) : O.flatMap bc = O.map fun b => Value.int .u8 (b.toNat : Int) := by
  induction O with
  | nil => rfl
  | cons b r ih => rw [List.flatMap_cons, ih]; rfl
abbrev BO (B : Nat) (v : Value) (O : List UInt8) (w : World) : Prop := OW bc 1 5 B v O w
section
variable {B : Nat} {v : Value} {O : List UInt8} {w : World}
theorem BO.text (h : BO B v O w) (s : ByteArray) (hl : O.length + s.size ≤ 140737488355328) (hB : B ≤ w.heap.size) :
    ∃ v' w', (Builtin.append_ #[39, 9] 39 #[v, .string s]).run Tryd.prog w = .ok v' w' ∧ BO B v' (O ++ s.data.toList) w' ∧ w.grownBy w' v.ownBlock := by
  obtain ⟨i0, hi, hz0, hz1, hz2⟩ := info_parts Tryd.infoU8
  obtain ⟨v', w', h1, h2, h3, _⟩ := run_append_own_string (P := Tryd.prog) (w := w) B 39 9 39 5 i0 Tryd.underlying39 Tryd.underlying9 hi hz0 hz1 hz2 v O.length (O.flatMap bc) h.own s (by unfold maxLen; omega) hl hB
  have e : s.data.toList.length = s.size := by simp
  exact ⟨v', w', h1, ⟨by rw [List.length_append, e, List.flatMap_append, bc_flat s.data.toList]; exact h2⟩, h3⟩
theorem BO.one (h : BO B v O w) (b : UInt8) (hl : O.length + 1 ≤ 100000000) (hB : B ≤ w.heap.size) :
    ∃ v' w', (Builtin.append_ #[39, 39] 39 #[v, .slice (some ⟨w.heap.size, 0, none⟩) 1 1]).run Tryd.prog (w.alloc (.cells #[.int .u8 (b.toNat : Int)] 5)) = .ok v' w' ∧ BO B v' (O ++ [b]) w' ∧ (w.alloc (.cells #[.int .u8 (b.toNat : Int)] 5)).grownBy w' v.ownBlock := by
  have hb1 : Below w.heap.size w (w.alloc (.cells #[.int .u8 (b.toNat : Int)] 5)) := (Below.refl _ _).alloc (Nat.le_refl _) _
  have hS : LS bc 1 (fun _ => True) (w.alloc (.cells #[.int .u8 (b.toNat : Int)] 5)) (.slice (some ⟨w.heap.size, 0, none⟩) 1 1) [b] := LS.one b 5 w bc 1 (fun _ => True) trivial
  obtain ⟨v', w2, h1, h2, h3, _⟩ := (h.keep hb1).app bc_len (by decide) (fun x hx u hu => by
    simp [bc] at hu
    subst hu
    rfl) Tryd.underlying39 Tryd.infoU8 rfl hS (by simp; omega) (by simp; omega) (Nat.le_trans hB hb1.size)
  exact ⟨v', w2, h1, h2, h3⟩
theorem BO.str (h : BO B v O w) : (convert 39 9 v).run Tryd.prog w = .ok (.string ⟨O.toArray⟩) w := by
  obtain ⟨_, ⟨rfl, h2⟩ | ⟨g, cap, cur, rfl, hB, hg, hn, _, hs, ht⟩⟩ := h.own
  · rw [List.length_eq_zero_iff.1 h2]
    exact run_convert_bytes_nil w 39 5 Tryd.underlying39 Tryd.underlying5 0 0 9 Tryd.underlying9
  · refine run_convert_bytes_back w 39 9 5 ⟨g, 0, none⟩ cap O Tryd.underlying39 Tryd.underlying5 Tryd.underlying9 (fun j hj => ?_)
    rw [Addr.add_mid, Nat.zero_add, cell_of_row w g _ _ _ _ hg]
    have e0 : (O.flatMap bc)[j]? = some (.int .u8 (O[j].toNat : Int)) := by rw [bc_flat, List.getElem?_map, List.getElem?_eq_getElem hj]; rfl
    rw [← ht, List.getElem?_take, if_pos (by omega)] at e0
    simpa using e0
/-- A byte of them, as it lies there. -/
theorem BO.cell (h : BO B v O w) {j : Nat} (hj : j < O.length) : ∃ g c, v = .slice (some ⟨g, 0, none⟩) O.length c ∧ w.cell? ⟨g, j, none⟩ = some (.int .u8 ((O.getD j 0).toNat : Int)) := by
  obtain ⟨_, ⟨rfl, h2⟩ | ⟨g, cap, cur, rfl, hB, hg, hn, _, hs, ht⟩⟩ := h.own
  · omega
  · refine ⟨g, cap, rfl, ?_⟩
    rw [cell_of_row w g _ _ _ _ hg]
    have e0 : (O.flatMap bc)[j]? = some (.int .u8 ((O.getD j 0).toNat : Int)) := by rw [bc_flat, List.getElem?_map, List.getD_eq_getElem?_getD, List.getElem?_eq_getElem hj]; rfl
    rw [← ht, List.getElem?_take, if_pos (by omega)] at e0
    simpa using e0
end
end Go.Proofs.YtgigiamnhjelmaaDoor

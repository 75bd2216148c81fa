/-
  Lz: the statement LzUnpacks, walked: over what the program's Unpack and Sequences answer.
-/
import Derived.Test.YtgigiamnhjelmaaDoorLzUnp
import Derived.Deep.RegionHeldLaw
namespace Go.Proofs.YtgigiamnhjelmaaDoor
open Go.RowKit Go.Lib
/-- What Unpack of the program answers, where K holds. -/
def UnpackC (K : World → Prop) : Prop := ∀ (w : World) (s : ByteArray) (n : Int), K w → s.size ≤ 4000 → Calls Tryd.prog 44 #[.string s, .int .i64 n] w fun e w' => e = .returned (.tuple #[.string (upS s n), .int .i64 (upC s n)]) ∧ Below w.heap.size w w'
/-- K is kept where new memory alone is made. -/
def Kept (K : World → Prop) : Prop := ∀ w w', K w → Below w.heap.size w w' → K w'
theorem ex12 : upS ⟨#[21, 97, 1, 0, 16, 98]⟩ 11 = ⟨#[97, 97, 97, 97, 97, 97, 97, 97, 97, 97, 98]⟩ ∧ upC ⟨#[21, 97, 1, 0, 16, 98]⟩ 11 = 0 := by
  have h : ps ⟨#[21, 97, 1, 0, 16, 98]⟩ = some ([⟨⟨#[97]⟩, 1, 9⟩, ⟨⟨#[98]⟩, 0, 0⟩], 11) := by decide +kernel
  exact ⟨((up_ok (by decide) h rfl).1).trans (by decide +kernel), (up_ok (by decide) h rfl).2⟩
section
variable {K : World → Prop}
/-- A list of sequences that is read. -/
theorem OW.sq {T : TypeId} {B : Nat} {v : Value} {l : List SQ} {w : World} (h : OW sqc 3 T B v l w) {i : Nat} {q : SQ} (hq : l[i]? = some q) : ∃ g c, v = .slice (some ⟨g, 0, none⟩) l.length c ∧ g < w.heap.size ∧
    w.cell? ⟨g, i * 3, none⟩ = some (.string q.lit) ∧ w.cell? ⟨g, i * 3 + 1, none⟩ = some (.int .i64 (q.dist : Int)) ∧ w.cell? ⟨g, i * 3 + 2, none⟩ = some (.int .i64 (q.long : Int)) := by
  have hi : i < l.length := (List.getElem?_eq_some_iff.1 hq).1
  obtain ⟨_, ⟨rfl, h2⟩ | ⟨g, cap, cur, rfl, hB, hg, hn, _, hs, ht⟩⟩ := h.own
  · omega
  · refine ⟨g, cap, rfl, lt_of_block hg, ?_, ?_, ?_⟩
    all_goals rw [cell_of_row w g _ _ _ _ hg]
    · have e0 : (l.flatMap sqc)[i * 3 + 0]? = some (.string q.lit) := by rw [flat_get sqc_len l i 0 (by decide), hq]; rfl
      rw [← ht, List.getElem?_take, if_pos (by omega)] at e0
      simpa using e0
    · have e0 : (l.flatMap sqc)[i * 3 + 1]? = some (.int .i64 (q.dist : Int)) := by rw [flat_get sqc_len l i 1 (by decide), hq]; rfl
      rw [← ht, List.getElem?_take, if_pos (by omega)] at e0
      simpa using e0
    · have e0 : (l.flatMap sqc)[i * 3 + 2]? = some (.int .i64 (q.long : Int)) := by rw [flat_get sqc_len l i 2 (by decide), hq]; rfl
      rw [← ht, List.getElem?_take, if_pos (by omega)] at e0
      simpa using e0
end
end Go.Proofs.YtgigiamnhjelmaaDoor

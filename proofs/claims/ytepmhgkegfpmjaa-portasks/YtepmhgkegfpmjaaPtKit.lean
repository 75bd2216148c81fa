/-
  Port: lists of texts that are appended whole; the document's stores in a list, as blocks.
-/
import Derived.Test.YtepmhgkegfpmjaaStSame
import Derived.Test.YtepmhgkegfpmjaaLsKit
namespace Go.Proofs.Ytepmhgkegfpmjaa
open Go.RowKit Go.Lib Go.Maps

/-- A list of texts as a source. -/
def TV (w : World) (v : Value) (m : List ByteArray) : Prop :=
  (v = .slice none 0 0 ∧ m = []) ∨ ∃ a c, v = .slice (some a) m.length c ∧ ∀ i x, m[i]? = some x → a.block < w.heap.size ∧ w.cell? (a.add i) = some (.string x)
section
variable {B : Nat} {v vs : Value} {l m : List ByteArray} {w w' : World}
theorem TV.bel (h : TV w v m) (hb : Below w.heap.size w w') : TV w' v m := by
  rcases h with h | ⟨a, c, e, h⟩
  · exact .inl h
  · refine .inr ⟨a, c, e, fun i x hx => ?_⟩
    obtain ⟨h1, h2⟩ := h i x hx
    exact ⟨Nat.lt_of_lt_of_le h1 hb.size, (hb.cell (p := a.add i) (by rw [show (a.add i).block = a.block from by unfold Addr.add; split <;> rfl]; exact h1)).trans h2⟩
theorem TS.app2 (h : TS B v l w) (hS : TV w vs m) (hb : (l.length + m.length) * 16 ≤ 140737488355328) (hB : B ≤ w.heap.size) :
    ∃ v' w', (Builtin.append_ #[30, 30] 30 #[v, vs]).run Try.prog w = .ok v' w' ∧ TS B v' (l ++ m) w' ∧ w.grownBy w' v.ownBlock ∧ (v'.ownBlock = v.ownBlock ∨ v'.ownBlock = some w.heap.size) := by
  obtain ⟨i0, hi, hz0, hz1, hz2⟩ := info_parts Try.infoTx
  rcases hS with ⟨rfl, rfl⟩ | ⟨a, c, rfl, hC⟩
  · exact ⟨v, w, run_append_owned_none (P := Try.prog) (w := w) B _ _ _ i0 1 Try.underlying30 hi v l.length (tc l) h.own, by rw [List.append_nil]; exact h, World.grownBy.refl _ _, .inl rfl⟩
  · obtain ⟨v', w', h1, h2, h3, _, h5⟩ := run_append_own_at (P := Try.prog) w B 30 30 9 i0 (.string ⟨#[]⟩) 1 16 Try.underlying30 hi hz0 hz1 hz2 rfl (by decide) v l.length (tc l) h.own a m.length c (tc m) (by simp [tc]) (fun j u hj => by
      rw [tc, List.getElem?_map] at hj
      obtain ⟨x, hx, rfl⟩ := Option.map_eq_some_iff.1 hj
      exact (hC j x hx).2) (fun u hu => by obtain ⟨x, _, rfl⟩ := List.mem_map.1 hu; rfl) (by unfold maxLen; omega) hb hB
    exact ⟨v', w', h1, ⟨by rw [List.length_append, tc, List.map_append]; exact h2⟩, h3, h5⟩
end

theorem TS.low {B B' : Nat} {v : Value} {l : List ByteArray} {w : World} (h : TS B v l w) (hB : B' ≤ B) : TS B' v l w := by
  refine ⟨h.own.1, ?_⟩
  rcases h.own.2 with h2 | ⟨g, cap, cur, e, hg, r⟩
  · exact .inl h2
  · exact .inr ⟨g, cap, cur, e, Nat.le_trans hB hg, r⟩

/-- Pointers to blocks, in a list. -/
def RP (w : World) (v : Value) (bs : List Nat) : Prop :=
  ∃ a c, v = .slice a bs.length c ∧ (bs = [] ∨ ∃ g o, a = some ⟨g, o, none⟩ ∧ g < w.heap.size ∧ ∀ i b, bs[i]? = some b → w.cell? ⟨g, o + i, none⟩ = some (.pointer (some ⟨b, 0, none⟩)))
end Go.Proofs.Ytepmhgkegfpmjaa

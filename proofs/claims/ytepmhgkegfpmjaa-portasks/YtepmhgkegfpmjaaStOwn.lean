/-
  Lists of objects and of texts in blocks of one's own: what is appended to them.
-/
import Derived.Test.YtepmhgkegfpmjaaStRef2
namespace Go.Proofs.Ytepmhgkegfpmjaa
open Go.RowKit Go.Lib

theorem Try.infoOb : (Try.prog.info? 94).map (fun i => (i.zero, i.size, i.bytes)) = some (some (.agg #[.string ⟨#[]⟩, .string ⟨#[]⟩]), 2, 32) := by kernel_rfl
/-- The cells of objects. -/
def oc : List OB → List Value
  | [] => []
  | p :: r => .string p.n :: .string p.d :: oc r
theorem oc_len : ∀ L : List OB, (oc L).length = L.length * 2
  | [] => rfl
  | _ :: r => by rw [oc, List.length_cons, List.length_cons, oc_len r, List.length_cons]; omega
theorem oc_app : ∀ L M : List OB, oc (L ++ M) = oc L ++ oc M
  | [], _ => rfl
  | p :: r, M => by rw [List.cons_append, oc, oc_app r M, oc]; rfl
theorem oc_get0 : ∀ (L : List OB) (i : Nat), (oc L)[i * 2]? = L[i]?.map (fun p => Value.string p.n)
  | [], i => by simp [oc]
  | p :: r, 0 => rfl
  | p :: r, i + 1 => by rw [oc, show (i + 1) * 2 = i * 2 + 1 + 1 by omega, List.getElem?_cons_succ, List.getElem?_cons_succ, oc_get0 r i, List.getElem?_cons_succ]
theorem oc_get1 : ∀ (L : List OB) (i : Nat), (oc L)[i * 2 + 1]? = L[i]?.map (fun p => Value.string p.d)
  | [], i => by simp [oc]
  | p :: r, 0 => rfl
  | p :: r, i + 1 => by rw [oc, show (i + 1) * 2 + 1 = i * 2 + 1 + 1 + 1 by omega, List.getElem?_cons_succ, List.getElem?_cons_succ, oc_get1 r i, List.getElem?_cons_succ]
theorem oc_one (L : List OB) : ∀ u ∈ oc L, u.oneCell' = true := by
  induction L with
  | nil => intro u h; cases h
  | cons p r ih =>
    intro u h
    rw [oc] at h
    rcases List.mem_cons.1 h with h | h
    · rw [h]; rfl
    · rcases List.mem_cons.1 h with h | h
      · rw [h]; rfl
      · exact ih u h
/-- Objects lie in memory from a place on. -/
def Src (w : World) (g o : Nat) (L : List OB) : Prop := ∀ i p, L[i]? = some p → w.cell? ⟨g, o + i * 2, none⟩ = some (.string p.n) ∧ w.cell? ⟨g, o + i * 2 + 1, none⟩ = some (.string p.d)
section
variable {w w' : World} {g o : Nat} {L : List OB}
theorem Src.cells (h : Src w g o L) : ∀ j u, (oc L)[j]? = some u → w.cell? ((⟨g, o, none⟩ : Addr).add j) = some u := by
  intro j u hj
  rw [Addr.add_mid]
  rcases Nat.mod_two_eq_zero_or_one j with e | e
  · obtain ⟨i, rfl⟩ : ∃ i, j = i * 2 := ⟨j / 2, by omega⟩
    rw [oc_get0] at hj
    obtain ⟨p, hp, rfl⟩ := Option.map_eq_some_iff.1 hj
    exact (h i p hp).1
  · obtain ⟨i, rfl⟩ : ∃ i, j = i * 2 + 1 := ⟨j / 2, by omega⟩
    rw [oc_get1] at hj
    obtain ⟨p, hp, rfl⟩ := Option.map_eq_some_iff.1 hj
    rw [← Nat.add_assoc]
    exact (h i p hp).2
theorem Src.take (h : Src w g o L) (k : Nat) : Src w g o (L.take k) := fun i p hp => by
  rw [List.getElem?_take] at hp
  split at hp
  · exact h i p hp
  · cases hp
theorem Src.drop (h : Src w g o L) (k : Nat) : Src w g (o + k * 2) (L.drop k) := fun i p hp => by
  rw [List.getElem?_drop] at hp
  have := h (k + i) p hp
  rw [show o + (k + i) * 2 = o + k * 2 + i * 2 by omega] at this
  exact this
theorem Src.below (h : Src w g o L) {B : Nat} (hb : Below B w w') (hB : g < B) : Src w' g o L := fun i p hp =>
  ⟨(hb.cell (p := ⟨g, o + i * 2, none⟩) hB).trans (h i p hp).1, (hb.cell (p := ⟨g, o + i * 2 + 1, none⟩) hB).trans (h i p hp).2⟩
end
/-- A list of objects in a block of one's own. -/
structure OS (B : Nat) (v : Value) (L : List OB) (w : World) : Prop where
  own : w.ownsRow B 94 2 v L.length (oc L)
section
variable {B : Nat} {v : Value} {L M : List OB} {w w' : World}
theorem OS.nil (B : Nat) (w : World) : OS B (.slice none 0 0) [] w := ⟨World.ownsRow_nil w B 94 2⟩
theorem OS.empty (hB : B ≤ w.heap.size) : OS B (.slice (some ⟨w.heap.size, 0, none⟩) 0 0) [] (w.alloc (.cells #[] 94)) :=
  ⟨rfl, .inr ⟨w.heap.size, 0, #[], rfl, hB, heap_alloc_new w _, Nat.le_refl _, Nat.zero_le _, rfl, rfl⟩⟩
theorem OS.src (h : OS B v L w) : (v = .slice none 0 0 ∧ L = []) ∨ ∃ g c, v = .slice (some ⟨g, 0, none⟩) L.length c ∧ L.length ≤ c ∧ B ≤ g ∧ g < w.heap.size ∧ Src w g 0 L := by
  obtain ⟨h1, ⟨rfl, h2⟩ | ⟨g, cap, cur, rfl, hB, hg, hn, _, hs, ht⟩⟩ := h.own
  · exact .inl ⟨rfl, List.length_eq_zero_iff.1 h2⟩
  · refine .inr ⟨g, cap, rfl, hn, hB, lt_of_block hg, fun i p hp => ?_⟩
    have hl : i < L.length := (List.getElem?_eq_some_iff.1 hp).1
    have e0 := oc_get0 L i
    have e1 := oc_get1 L i
    rw [hp, ← ht, List.getElem?_take, if_pos (by omega)] at e0 e1
    exact ⟨by rw [Nat.zero_add, cell_of_row w g _ _ _ _ hg]; simpa using e0, by rw [Nat.zero_add, cell_of_row w g _ _ _ _ hg]; simpa using e1⟩
theorem OS.ol (h : OS B v L w) : OL w v L := by
  rcases h.src with ⟨rfl, rfl⟩ | ⟨g, c, rfl, _, _, hg, hS⟩
  · exact ⟨_, _, rfl, .inl rfl⟩
  · exact ⟨_, _, rfl, .inr ⟨g, 0, rfl, hg, hS⟩⟩
theorem OS.keep (h : OS B v L w) (hb : Below w.heap.size w w') : OS B v L w' := by
  refine ⟨h.own.1, ?_⟩
  rcases h.own.2 with h2 | ⟨g, cap, cur, e, hB, hg, r⟩
  · exact .inl h2
  · exact .inr ⟨g, cap, cur, e, hB, (hb.block g (lt_of_block hg)).trans hg, r⟩
theorem OS.lt (h : OS B v L w) (b : Nat) (hb : v.ownBlock = some b) : B ≤ b ∧ b < w.heap.size := by
  obtain ⟨h1, ⟨rfl, h2⟩ | ⟨g, cap, cur, rfl, hB, hg, _⟩⟩ := h.own
  · simp [Value.ownBlock] at hb
  · simp only [Value.ownBlock, Option.some.injEq] at hb
    subst hb
    exact ⟨hB, lt_of_block hg⟩
/-- Objects that lie somewhere, appended. -/
theorem OS.app (h : OS B v L w) {b o c : Nat} (hS : Src w b o M) (hb : L.length + M.length ≤ 1000000) (hB : B ≤ w.heap.size) :
    ∃ v' w', (Builtin.append_ #[90, 90] 90 #[v, .slice (some ⟨b, o, none⟩) M.length c]).run Try.prog w = .ok v' w' ∧ OS B v' (L ++ M) w' ∧ w.grownBy w' v.ownBlock ∧ (v'.ownBlock = v.ownBlock ∨ v'.ownBlock = some w.heap.size) := by
  obtain ⟨i0, hi, hz0, hz1, hz2⟩ := info_parts Try.infoOb
  obtain ⟨v', w', h1, h2, h3, _, h5⟩ := run_append_own_at (P := Try.prog) w B 90 90 94 i0 (.agg #[.string ⟨#[]⟩, .string ⟨#[]⟩]) 2 32 Try.underlying90 hi hz0 hz1 hz2 rfl (by decide) v L.length (oc L) h.own ⟨b, o, none⟩ M.length c (oc M) (oc_len M) hS.cells (oc_one M) (by unfold maxLen; omega) (by omega) hB
  exact ⟨v', w', h1, ⟨by rw [List.length_append, oc_app]; exact h2⟩, h3, h5⟩
end
end Go.Proofs.Ytepmhgkegfpmjaa

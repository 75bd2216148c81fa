/-
  Lookup: items one behind the other in a block: read, stored over, cut.
-/
import Derived.Test.YtkcefdiiibbflaaLuMath
import Derived.Deep.MidRow
import Derived.Lib.SliceRun
namespace Go.Proofs.Ytkcefdiiibbflaa
open Go.RowKit Go.Lib
theorem Try.infoIt : (Try.prog.info? 25).map (fun i => (i.zero, i.size, i.bytes)) = some (some (.agg #[.string ⟨#[]⟩, .string ⟨#[]⟩, .int .i64 0, .int .i64 0, .int .i64 0, .int .i64 0]), 6, 64) := by kernel_rfl
theorem Try.sizeIt : (Try.prog.info? 25).map (·.size) = some 6 := by kernel_rfl
def flI (L : List IT) : List Value := L.flatMap it6
theorem flI_len (L : List IT) : (flI L).length = L.length * 6 := flat_len it6_len L
theorem flI_get (L : List IT) (i j : Nat) (hj : j < 6) : (flI L)[i * 6 + j]? = L[i]?.bind fun x => (it6 x)[j]? := flat_get it6_len L i j hj
theorem flI_app (L M : List IT) : flI (L ++ M) = flI L ++ flI M := by simp [flI]
theorem flI_one (L : List IT) : ∀ u ∈ flI L, u.oneCell' = true := fun u hu => by
  obtain ⟨x, _, hx⟩ := List.mem_flatMap.1 hu
  exact it6_one x u hx
/-- A block of N cells for items. -/
def KB6 (w : World) (g N : Nat) : Prop := ∃ cs, w.heap[g]? = some (.cells cs 25 (0, 0)) ∧ cs.size = N
section
variable {w w' : World} {g o N i : Nat} {L : List IT} {x : IT} {vs : List Value}
theorem KB6.lt (h : KB6 w g N) : g < w.heap.size := by obtain ⟨cs, h, _⟩ := h; exact lt_of_block h
theorem KB6.there (h : KB6 w g N) {n : Nat} (ho : o + n ≤ N) : w.there g o n := by
  obtain ⟨cs, h1, h2⟩ := h
  intro j hj
  constructor
  · simp only [World.cell?, h1]
    simp [show o + j < cs.size by omega]
  · simp [World.frozen?, h1]
theorem KB6.one (h : KB6 w g N) (v : Value) : KB6 (w.setCell ⟨g, o, none⟩ v) g N := by
  obtain ⟨cs, h1, h2⟩ := h
  exact ⟨_, heap_set_self h1, by simpa using h2⟩
theorem KB6.set (h : KB6 w g N) : ∀ (vs : List Value) (o : Nat), KB6 (w.setCells g o vs) g N := fun vs => by
  induction vs generalizing w with
  | nil => exact fun _ => h
  | cons v r ih => exact fun o => ih (h.one v) (o + 1)
theorem KB6.kb (h : KB6 w g N) (hb : w'.heap[g]? = w.heap[g]?) : KB6 w' g N := by
  obtain ⟨cs, h1, h2⟩ := h
  exact ⟨cs, hb.trans h1, h2⟩
theorem gs_setCells (g : Nat) : ∀ (vs : List Value) (o : Nat) (w : World), Gs (fun i => i = g) w (w.setCells g o vs)
  | [], _, _ => Gs.refl _ _
  | v :: r, o, w => by
    refine Gs.trans ?_ (gs_setCells g r (o + 1) (w.setCell ⟨g, o, none⟩ v))
    exact ⟨rfl, rfl, rfl, by simp [World.setCell], fun i _ hp => heap_setCell_other _ _ _ _ (fun e => hp e)⟩
/-- Items in a block of N cells, from its cell o on. -/
structure SG (w : World) (g o N : Nat) (L : List IT) : Prop where
  blk : KB6 w g N
  rng : w.rangeAt g o (flI L)
  fit : o + L.length * 6 ≤ N
theorem SG.kb (h : SG w g o N L) (hb : w'.heap[g]? = w.heap[g]?) : SG w' g o N L :=
  ⟨h.blk.kb hb, fun j v hv => by have := h.rng j v hv; simp only [World.cell?, hb] at this ⊢; exact this, h.fit⟩
theorem SG.bel (h : SG w g o N L) (hb : Below w.heap.size w w') : SG w' g o N L := h.kb (hb.block g h.blk.lt)
theorem SG.at (h : SG w g o N L) (hx : L[i]? = some x) : w.rangeAt g (o + i * 6) (it6 x) := fun j v hv => by
  have hj : j < 6 := (List.getElem?_eq_some_iff.1 hv).1
  rw [Nat.add_assoc]
  exact h.rng _ _ (by rw [flI_get L i j hj, hx]; exact hv)
theorem SG.of_at (hb : KB6 w g N) (hf : o + L.length * 6 ≤ N) (h : ∀ i x, L[i]? = some x → w.rangeAt g (o + i * 6) (it6 x)) : SG w g o N L :=
  ⟨hb, fun j v hv => by
    have e : j = j / 6 * 6 + j % 6 := by rw [Nat.mul_comm]; exact (Nat.div_add_mod j 6).symm
    rw [e, flI_get _ _ _ (Nat.mod_lt _ (by decide))] at hv
    obtain ⟨x, hx, hv⟩ := Option.bind_eq_some_iff.1 hv
    have := h _ x hx _ v hv
    rw [Nat.add_assoc, ← e] at this
    exact this, hf⟩
theorem SG.take (h : SG w g o N L) (n : Nat) : SG w g o N (L.take n) := by
  refine SG.of_at h.blk (by have := h.fit; rw [List.length_take]; omega) fun i x hx => h.at ?_
  rw [List.getElem?_take] at hx
  split at hx
  · exact hx
  · cases hx
theorem SG.drop (h : SG w g o N L) {n : Nat} (hn : n ≤ L.length) : SG w g (o + n * 6) N (L.drop n) := by
  refine SG.of_at h.blk (by have := h.fit; rw [List.length_drop]; omega) fun i x hx => ?_
  rw [List.getElem?_drop] at hx
  have := h.at hx
  rwa [show o + (n + i) * 6 = o + n * 6 + i * 6 by omega] at this
/-- An item is stored over another one. -/
theorem SG.set (h : SG w g o N L) (hi : i < L.length) (x : IT) : SG (w.setCells g (o + i * 6) (it6 x)) g o N (L.set i x) := by
  have hf := h.fit
  refine SG.of_at (h.blk.set _ _) (by rw [List.length_set]; exact hf) fun q y hy => ?_
  by_cases e : i = q
  · subst e
    rw [List.getElem?_set_self hi] at hy
    cases hy
    exact World.rangeAt_setCells_same w g (o + i * 6) (it6 x) (h.blk.there (by rw [it6_len]; omega))
  · rw [List.getElem?_set_ne e] at hy
    refine World.rangeAt_setCells_apart (h.at hy) g (o + i * 6) (it6 x) (.inr ?_)
    rw [it6_len, it6_len]
    omega
/-- What lies apart from what is stored. -/
theorem SG.apart (h : SG w g o N L) {p : Nat} (vs : List Value) (hp : p + vs.length ≤ o ∨ o + L.length * 6 ≤ p) : SG (w.setCells g p vs) g o N L :=
  ⟨h.blk.set _ _, World.rangeAt_setCells_apart h.rng g p vs (.inr (by rw [flI_len]; omega)), h.fit⟩
theorem SG.app {M : List IT} (h : SG w g o N L) (k : SG w g (o + L.length * 6) N M) : SG w g o N (L ++ M) := by
  have hf := k.fit
  refine SG.of_at h.blk (by rw [List.length_append]; omega) fun i x hx => ?_
  by_cases e : i < L.length
  · rw [List.getElem?_append_left e] at hx; exact h.at hx
  · rw [List.getElem?_append_right (by omega)] at hx
    have := k.at hx
    rwa [show o + L.length * 6 + (i - L.length) * 6 = o + i * 6 by omega] at this
theorem SG.store (h : SG w g o N L) (hi : i < L.length) (x : IT) : (Instr.storeAt 25 (.pointer (some ⟨g, o + i * 6, none⟩)) (.agg (it6 x).toArray)).run Try.prog w = .ok () (w.setCells g (o + i * 6) (it6 x)) := by
  have := run_storeAt_mid (P := Try.prog) w g (o + i * 6) 25 (it6 x).toArray (by have hf := h.fit; exact h.blk.there (by simp [it6]; omega)) Try.sizeIt (all_oneCell_toArray (it6_one x))
  simpa using this
theorem SG.load (h : SG w g o N L) (hx : L[i]? = some x) : (Instr.loadAt 25 (.pointer (some ⟨g, o + i * 6, none⟩))).run Try.prog w = .ok (.agg (it6 x).toArray) w :=
  run_loadAt_mid (P := Try.prog) w g (o + i * 6) 25 (it6 x) _ (h.at hx) Try.underlying25 rfl Try.sizeIt
/-- The rest of a list is made zero. -/
theorem clear_any (h : KB6 w g N) {n c : Nat} (hn : 0 < n) (hf : o + n * 6 ≤ N) (ST T : TypeId) (hu : Try.prog.underlying ST = some (.slice 25)) :
    ∃ vs : List Value, vs.length = n * 6 ∧ (Builtin.clear_ #[ST] T #[.slice (some ⟨g, o, none⟩) n c]).run Try.prog w = .ok (.tuple #[]) (w.setCells g o vs) := by
  obtain ⟨z, hz⟩ : ∃ z : Array Value, z = #[.string ⟨#[]⟩, .string ⟨#[]⟩, .int .i64 0, .int .i64 0, .int .i64 0, .int .i64 0] := ⟨_, rfl⟩
  have hs : z.size = 6 := by rw [hz]; rfl
  have hv : ∀ w, (zeroValue 25).run Try.prog w = .ok (.agg z) w := fun w => by rw [hz]; exact Try.zeroValue25 w
  have ho : ∀ k, k < 6 → (z[k]!).oneCell' = true := by rw [hz]; decide
  have hl : (Builtin.zeroCells z n).toList.length = n * 6 := by simp [Builtin.zeroCells, hs]
  have h1 : ∀ v ∈ (Builtin.zeroCells z n).toList, v.oneCell' = true := fun v hv => by
    simp only [Builtin.zeroCells, Array.toList_map, List.mem_map] at hv
    obtain ⟨i, _, rfl⟩ := hv
    rw [hs]
    exact ho _ (Nat.mod_lt _ (by decide))
  have ht := h.there hf
  have hst := run_storeCells_cells (P := Try.prog) g o (Builtin.zeroCells z n).toList 0 w (fun j hj => by rw [Nat.add_zero]; exact (ht j (by omega)).1) (fun j hj => by rw [Nat.add_zero]; exact (ht j (by omega)).2) h1
  obtain ⟨m, rfl⟩ : ∃ m, n = m + 1 := ⟨n - 1, by omega⟩
  refine ⟨_, hl, ?_⟩
  simp only [Nat.add_zero] at hst
  simp [Builtin.clear_, run_underlying hu, hv, Value.cells, hst]
end
/-- A list of one's own is such a row. -/
theorem ow_sg {B : Nat} {v : Value} {L : List IT} {w : World} (h : OW it6 6 25 B v L w) : (L = [] ∧ v = .slice none 0 0) ∨ ∃ g cap, v = .slice (some ⟨g, 0, none⟩) L.length cap ∧ L.length ≤ cap ∧ cap ≤ maxLen ∧ B ≤ g ∧ SG w g 0 (cap * 6) L := by
  obtain ⟨h1, ⟨rfl, h2⟩ | ⟨g, cap, cur, rfl, hB, hg, hn, hm, hs, ht⟩⟩ := h.own
  · exact .inl ⟨List.length_eq_zero_iff.1 h2, rfl⟩
  · refine .inr ⟨g, cap, rfl, hn, hm, hB, ⟨⟨cur, hg, hs⟩, fun j u hj => ?_, by omega⟩⟩
    have hlt : j < L.length * 6 := by rw [← flI_len]; exact (List.getElem?_eq_some_iff.1 hj).1
    rw [show flI L = L.flatMap it6 from rfl, ← ht, List.getElem?_take, if_pos hlt] at hj
    rw [Nat.zero_add, cell_of_row w g _ _ _ _ hg]
    simpa using hj
theorem sg_ow {B g cap : Nat} {L : List IT} {w : World} (hB : B ≤ g) (hn : L.length ≤ cap) (hm : cap ≤ maxLen) (h : SG w g 0 (cap * 6) L) : OW it6 6 25 B (.slice (some ⟨g, 0, none⟩) L.length cap) L w := by
  obtain ⟨cs, h1, h2⟩ := h.blk
  refine ⟨by rw [flat_len it6_len], .inr ⟨g, cap, cs, rfl, hB, h1, hn, hm, h2, ?_⟩⟩
  apply List.ext_getElem?
  intro j
  rw [List.getElem?_take]
  split
  · rename_i hj
    have := h.rng j
    rw [Nat.zero_add, cell_of_row w g _ _ _ _ h1] at this
    have hlt : j < (flI L).length := by rw [flI_len]; exact hj
    have := this _ (List.getElem?_eq_getElem hlt)
    rw [show L.flatMap it6 = flI L from rfl, List.getElem?_eq_getElem hlt]
    simpa using this
  · rename_i hj
    rw [show L.flatMap it6 = flI L from rfl, List.getElem?_eq_none (by rw [flI_len]; omega)]
end Go.Proofs.Ytkcefdiiibbflaa

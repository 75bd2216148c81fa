/-
  Lookup: a list that rises, and others let in, from the greatest down: in plain terms, and copied in memory.
-/
import Derived.Test.YtkcefdiiibbflaaLuHas
namespace Go.Proofs.Ytkcefdiiibbflaa
open Go.RowKit Go.Lib
/-- How it stands with e of L not moved yet, and r of M not let in yet. -/
structure WI (L M : List IT) (e r : Nat) (T : List IT) : Prop where
  len : T.length = L.length + M.length
  el : e ≤ L.length
  rl : r ≤ M.length
  pre : T.take e = L.take e
  ss : SS (T.drop (e + r))
  mem : ∀ x, x ∈ T.drop (e + r) ↔ x ∈ L.drop e ∨ x ∈ M.drop r
  lt1 : ∀ y ∈ L.take e, ∀ z ∈ T.drop (e + r), lI y z = true
  lt2 : ∀ y ∈ M.take r, ∀ z ∈ T.drop (e + r), lI y z = true
theorem wi_start (L M : List IT) : WI L M L.length M.length (L ++ M) := by
  have e0 : (L ++ M).drop (L.length + M.length) = [] := List.drop_eq_nil_of_le (by simp)
  refine ⟨by simp, Nat.le_refl _, Nat.le_refl _, by simp, by rw [e0]; exact SS.nil, fun x => ?_, fun y _ z hz => ?_, fun y _ z hz => ?_⟩
  · rw [e0]; simp
  · rw [e0] at hz; simp at hz
  · rw [e0] at hz; simp at hz
theorem wi_end {L M T : List IT} {e : Nat} (hL : SS L) (h : WI L M e 0 T) : SS T ∧ ∀ x, x ∈ T ↔ x ∈ L ∨ x ∈ M := by
  have e1 : T = L.take e ++ T.drop e := by rw [← h.pre]; exact (List.take_append_drop e T).symm
  have hs := h.ss
  have hm := h.mem
  have h1 := h.lt1
  rw [Nat.add_zero] at hs hm h1
  constructor
  · rw [e1]
    refine List.pairwise_append.2 ⟨List.Pairwise.sublist (List.take_sublist e L) hL, hs, fun y hy z hz => h1 y hy z hz⟩
  · intro x
    rw [e1, List.mem_append, hm, List.drop_zero]
    constructor
    · rintro (h | h | h)
      · exact .inl (List.mem_of_mem_take h)
      · exact .inl (List.mem_of_mem_drop h)
      · exact .inr h
    · rintro (h | h)
      · rw [← List.take_append_drop e L, List.mem_append] at h
        rcases h with h | h
        · exact .inl h
        · exact .inr (.inl h)
      · exact .inr (.inr h)
theorem drop_set_same {T : List IT} {j : Nat} (h : j < T.length) (x : IT) : (T.set j x).drop j = x :: T.drop (j + 1) := by
  rw [List.drop_eq_getElem_cons (by simpa using h), List.getElem_set_self, List.drop_set_of_lt (Nat.lt_succ_self j)]
/-- One is let in. -/
def letIn (L T : List IT) (e i at_ : Nat) (x : IT) : List IT := (T.take (at_ + i + 1) ++ ((L.take e).drop at_ ++ T.drop (e + i + 1))).set (at_ + i) x
theorem wi_step {L M T : List IT} {e i : Nat} {x : IT} (hL : SS L) (hM : SS M) (hd : ∀ x ∈ M, x ∉ L) (h : WI L M e (i + 1) T) (hx : M[i]? = some x) : WI L M (pl (L.take e) x) i (letIn L T e i (pl (L.take e) x) x) := by
  have hLe : SS (L.take e) := List.Pairwise.sublist (List.take_sublist e L) hL
  have hae : pl (L.take e) x ≤ e := by have := lo_le (fun z => !lI z x) (L.take e); rw [List.length_take] at this; rw [pl]; omega
  have f1 : (L.take e).take (pl (L.take e) x) = (L.take e).filter fun z => !!lI z x := lo_take _ (ss_mono hLe x)
  have f2 : (L.take e).drop (pl (L.take e) x) = (L.take e).filter fun z => !lI z x := lo_drop _ (ss_mono hLe x)
  generalize pl (L.take e) x = a at *
  have hl := h.len
  have hel := h.el
  have hrl := h.rl
  have hxM : x ∈ M := List.mem_of_getElem? hx
  have hil : i < M.length := (List.getElem?_eq_some_iff.1 hx).1
  have hxe : M.drop i = x :: M.drop (i + 1) := by
    rw [List.drop_eq_getElem_cons hil]
    rw [List.getElem?_eq_getElem hil] at hx
    cases hx; rfl
  have hxt : M.take (i + 1) = M.take i ++ [x] := by rw [List.take_add_one, hx]; rfl
  obtain ⟨X, hX⟩ : ∃ X, X = (L.take e).drop a := ⟨_, rfl⟩
  have hXl : X.length = e - a := by rw [hX, List.length_drop, List.length_take]; omega
  obtain ⟨U, hU⟩ : ∃ U, U = T.drop (e + (i + 1)) := ⟨_, rfl⟩
  have hUl : U.length = T.length - (e + (i + 1)) := by rw [hU, List.length_drop]
  have hT1 : letIn L T e i a x = (T.take (a + i + 1) ++ (X ++ U)).set (a + i) x := by rw [letIn, hX, hU, Nat.add_assoc e i 1]
  have hpl : (T.take (a + i + 1)).length = a + i + 1 := by rw [List.length_take]; omega
  have hdr : (letIn L T e i a x).drop (a + i) = x :: (X ++ U) := by
    rw [hT1, drop_set_same (by rw [List.length_append, hpl]; omega), List.drop_left' hpl]
  have hxX : ∀ y ∈ X, lI x y = true ∧ y ∈ L := fun y hy => by
    rw [hX, f2, List.mem_filter] at hy
    have hyL := List.mem_of_mem_take hy.1
    have h1 : lI y x = false := by simpa using hy.2
    refine ⟨?_, hyL⟩
    cases h2 : lI x y
    · exact absurd (lI_total h1 h2 ▸ hyL) (hd x hxM)
    · rfl
  have hXs : SS X := by rw [hX]; exact List.Pairwise.sublist (List.drop_sublist _ _) hLe
  have hXt : ∀ y ∈ X, y ∈ L.take e := fun y hy => by rw [hX] at hy; exact List.mem_of_mem_drop hy
  have hLa : L.take a = (L.take e).take a := by rw [List.take_take, Nat.min_eq_left hae]
  have hss := h.ss
  have hmem := h.mem
  have ht1 := h.lt1
  have ht2 := h.lt2
  rw [← hU] at hss hmem ht1 ht2
  refine ⟨?_, by omega, by omega, ?_, ?_, fun z => ?_, fun y hy z hz => ?_, fun y hy z hz => ?_⟩
  · rw [hT1, List.length_set, List.length_append, List.length_append, hpl, hXl, hUl]; omega
  · rw [hT1, List.take_set_of_le (by omega), List.take_append_of_le_length (by omega), List.take_take, Nat.min_eq_left (by omega), hLa, ← h.pre, List.take_take, Nat.min_eq_left hae]
  · rw [hdr]
    refine List.pairwise_cons.2 ⟨fun z hz => ?_, List.pairwise_append.2 ⟨hXs, hss, fun y hy z hz => ht1 y (hXt y hy) z hz⟩⟩
    rcases List.mem_append.1 hz with hz | hz
    · exact (hxX z hz).1
    · exact ht2 x (by rw [hxt]; simp) z hz
  · rw [hdr, hxe]
    have hLd : L.drop a = X ++ L.drop e := by
      rw [hX, List.drop_take]
      have : L.drop e = (L.drop a).drop (e - a) := by rw [List.drop_drop]; congr 1; omega
      rw [this, List.take_append_drop]
    rw [hLd]
    simp only [List.mem_cons, List.mem_append, hmem]
    constructor
    · rintro (h | h | h | h)
      · exact .inr (.inl h)
      · exact .inl (.inl h)
      · exact .inl (.inr h)
      · exact .inr (.inr h)
    · rintro ((h | h) | h | h)
      · exact .inr (.inl h)
      · exact .inr (.inr (.inl h))
      · exact .inl h
      · exact .inr (.inr (.inr h))
  · rw [hLa, f1, List.mem_filter] at hy
    have hyx : lI y x = true := by simpa using hy.2
    rw [hdr] at hz
    rcases List.mem_cons.1 hz with rfl | hz
    · exact hyx
    · rcases List.mem_append.1 hz with hz | hz
      · exact lI_trans hyx (hxX z hz).1
      · exact ht1 y hy.1 z hz
  · have hyx : lI y x = true := by
      rw [← List.take_append_drop (i + 1) M, hxt] at hM
      exact (List.pairwise_append.1 (List.pairwise_append.1 hM).1).2.2 y hy x (by simp)
    rw [hdr] at hz
    rcases List.mem_cons.1 hz with rfl | hz
    · exact hyx
    · rcases List.mem_append.1 hz with hz | hz
      · exact lI_trans hyx (hxX z hz).1
      · exact ht2 y (by rw [hxt]; simp [hy]) z hz
section
variable {w : World} {g o N : Nat} {T X : List IT} {p : Nat}
/-- Items are laid over a part. -/
theorem SG.blit (h : SG w g o N T) (hp : p + X.length ≤ T.length) : SG (w.setCells g (o + p * 6) (flI X)) g o N (T.take p ++ (X ++ T.drop (p + X.length))) := by
  have hf := h.fit
  have h1 : SG (w.setCells g (o + p * 6) (flI X)) g o N (T.take p) := (h.take p).apart _ (.inr (by rw [List.length_take]; omega))
  have h2 : SG (w.setCells g (o + p * 6) (flI X)) g (o + p * 6) N X := ⟨h.blk.set _ _, World.rangeAt_setCells_same w g (o + p * 6) (flI X) (h.blk.there (by rw [flI_len]; omega)), by omega⟩
  have h3 : SG (w.setCells g (o + p * 6) (flI X)) g (o + (p + X.length) * 6) N (T.drop (p + X.length)) := (h.drop hp).apart _ (.inl (by rw [flI_len]; omega))
  have hpl : (T.take p).length = p := by rw [List.length_take]; omega
  refine h1.app ?_
  rw [hpl]
  refine h2.app ?_
  rwa [show o + p * 6 + X.length * 6 = o + (p + X.length) * 6 by omega]
/-- Items are copied within a row. -/
theorem copy_any (h : SG w g o N T) {s n p dl dc sc : Nat} (hs : s + n ≤ T.length) (hn : n ≤ dl) (hp : p + n ≤ T.length) (ty : TypeId) :
    (Builtin.copy_ #[46, 46] ty #[.slice (some ⟨g, o + p * 6, none⟩) dl dc, .slice (some ⟨g, o + s * 6, none⟩) n sc]).run Try.prog w = .ok (.int .i64 (n : Int)) (w.setCells g (o + p * 6) (flI ((T.drop s).take n))) := by
  have hf := h.fit
  obtain ⟨X, hX⟩ : ∃ X, X = (T.drop s).take n := ⟨_, rfl⟩
  have hXl : X.length = n := by rw [hX, List.length_take, List.length_drop]; omega
  have hr : SG w g (o + s * 6) N X := by rw [hX]; exact (h.drop (by omega)).take n
  rw [← hX]
  have hl := run_loadCells_list (P := Try.prog) w ⟨g, o + s * 6, none⟩ (flI X) (fun j v hv => by rw [Addr.add_mid]; exact hr.rng j v hv)
  have ht := h.blk.there (o := o + p * 6) (n := n * 6) (by omega)
  have hst := run_storeCells_cells (P := Try.prog) g (o + p * 6) (flI X) 0 w (fun j hj => by rw [flI_len, hXl] at hj; simpa using (ht j hj).1) (fun j hj => by rw [flI_len, hXl] at hj; simpa using (ht j hj).2) (flI_one X)
  rw [flI_len, hXl] at hl
  have hmin : Nat.min n dl = n := Nat.min_eq_left hn
  have hu := Try.underlying46
  have hsz := Try.sizeIt
  cases hq : Try.prog.info? 25 with
  | none => rw [hq] at hsz; cases hsz
  | some i =>
    have hi : i.size = 6 := by rw [hq] at hsz; simpa using hsz
    simp only [Nat.add_zero] at hst
    simp [Builtin.copy_, run_underlying hu, Builtin.lenOf, Builtin.firstCells, sizeOf, typeInfo, hq, hi, hmin, hl, hst]
    rfl
end
end Go.Proofs.Ytkcefdiiibbflaa

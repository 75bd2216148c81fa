/-
  New rows: what is appended, and the contracts of Clone and Rank.
-/
import Derived.Test.YtfjkdmiaagalhaaGreatReduce
import Derived.Lib.AppendZeros
import Derived.Deep.AppendSrc
import Derived.Lib.LazyBuf
namespace Go.Proofs.YtfjkdmiaagalhaaGreat
open Go.RowKit Go.Lib

theorem zero_kcells (n : Nat) : Builtin.zeroCells #[.int .i64 0] n = (kcells n (fun _ => 0)).toArray := by
  unfold Builtin.zeroCells
  apply Array.toList_inj.1
  apply List.ext_getElem?
  intro i
  by_cases hi : i < n
  · simp [kcells_get (fun _ => (0 : K)) hi, hi, Nat.mod_one]
    rfl
  · simp [hi, kcells_length]
theorem kcells_one {n : Nat} {G : Nat → K} : ∀ u ∈ kcells n G, u.oneCell' = true := by
  intro u hu
  obtain ⟨_, _, rfl⟩ := List.mem_map.1 hu
  rfl
theorem kcells_app (c n : Nat) (G G' : Nat → K) : kcells c G ++ kcells n G' = kcells (c + n) (fun k => if k < c then G k else G' (k - c)) := by
  apply List.ext_getElem?
  intro i
  by_cases h1 : i < c
  · rw [List.getElem?_append_left (by rw [kcells_length]; omega), kcells_get _ h1, kcells_get _ (by omega), if_pos h1]
  · rw [List.getElem?_append_right (by rw [kcells_length]; omega), kcells_length]
    by_cases h2 : i < c + n
    · rw [kcells_get _ (by omega), kcells_get _ h2, if_neg h1]
    · rw [List.getElem?_eq_none (by rw [kcells_length]; omega), List.getElem?_eq_none (by rw [kcells_length]; omega)]
theorem RD.src {w : World} {b o n : Nat} {H : Nat → K} (h : RD w b o n H) : ∀ j v, (kcells n H)[j]? = some v → w.cell? ((⟨b, o, none⟩ : Addr).add j) = some v := by
  intro j v hj
  have hj' : j < n := by have := (List.getElem?_eq_some_iff.1 hj).1; rwa [kcells_length] at this
  rw [kcells_get _ hj'] at hj
  cases hj
  rw [Addr.add_mid]
  exact h j hj'

theorem append_clone {w : World} {b o c cc : Nat} {H : Nat → K} {base : Addr} (hR : RD w b o c H) (h1 : 1 ≤ c) (hc : c ≤ 100000) :
    ∃ cap w', (Builtin.append_ #[48, 48] 48 #[.slice (some base) 0 0, .slice (some ⟨b, o, none⟩) c cc]).run Tryz.prog w = .ok (.slice (some ⟨w.heap.size, 0, none⟩) c cap) w' ∧ KB w' w.heap.size c H ∧ c ≤ cap ∧ Below w.heap.size w w' := by
  obtain ⟨i0, hi, hz0, hz1, hz2⟩ := info_parts Tryz.info3
  have hs : Src Tryz.prog i0.size 48 (.slice (some ⟨b, o, none⟩) c cc) c (kcells c H) w := Src.ofSlice w Tryz.underlying48 ⟨b, o, none⟩ c cc (kcells c H) (by rw [kcells_length, hz1, Nat.mul_one]) hR.src kcells_one
  have hr := run_append_grow_src w 48 48 48 3 i0 (.int .i64 0) Tryz.underlying48 hi hz0 (some base) 0 0 [] (run_firstCells_some w.drew i0.size 0 base 0 0 [] (by simp) (fun j v h => by simp at h)) _ c _ hs (by omega) (by omega) (by rw [Nat.zero_add, nextslicecap_zero h1, hz2]; omega)
  rw [Nat.zero_add] at hr
  refine ⟨_, _, hr, ?_, grownCap_ge w c 0 3, ((Below.refl _ _).drew).alloc (Nat.le_refl _) _⟩
  obtain ⟨Z, hZ⟩ : ∃ Z : List Value, Z = (Builtin.zeroCells (Value.int .i64 0).cells (grownCap w c 0 3 - c)).toList := ⟨_, rfl⟩
  refine ⟨Z, ?_⟩
  rw [show ((([] : List Value) ++ kcells c H).toArray ++ Builtin.zeroCells (Value.int .i64 0).cells (grownCap w c 0 3 - c)) = (kcells c H ++ Z).toArray by apply Array.toList_inj.1; rw [hZ]; simp]
  exact heap_alloc_new w.drew (.cells (kcells c H ++ Z).toArray 3)

theorem append_wide {w : World} {b o c n : Nat} {H : Nat → K} (hR : RD w b o c H) (h1 : 1 ≤ c) (hc : c ≤ 255) (hn1 : 1 ≤ n) (hn : n ≤ 255) :
    ∃ cap w', (Builtin.append_ #[48, 3] 48 #[.slice (some ⟨b, o, none⟩) c c, .int .i64 n]).run Tryz.prog w = .ok (.slice (some ⟨w.heap.size, 0, none⟩) (c + n) cap) w' ∧ KB w' w.heap.size (c + n) (fun k => if k < c then H k else 0) ∧ c + n ≤ cap ∧ Below w.heap.size w w' := by
  obtain ⟨i0, hi, hz0, hz1, hz2⟩ := info_parts Tryz.info3
  have hold := run_firstCells_some (P := Tryz.prog) w.drew i0.size c ⟨b, o, none⟩ c c (kcells c H) (by rw [kcells_length, hz1, Nat.mul_one]) (by simpa using hR.src)
  have hr : (Builtin.append_ #[48, 3] 48 #[.slice (some ⟨b, o, none⟩) c c, .int .i64 n]).run Tryz.prog w = .ok (.slice (some ⟨w.heap.size, 0, none⟩) (c + n) (grownCap w (c + n) c 3)) (w.drew.alloc (.cells ((kcells c H).toArray ++ Builtin.zeroCells (Value.int .i64 0).cells n ++ Builtin.zeroCells (Value.int .i64 0).cells (grownCap w (c + n) c 3 - (c + n))) 3)) := by
    have hn0 : n ≠ 0 := by omega
    have hcn : ¬ (c + n ≤ c) := by omega
    have hw : IntKind.i64.wrap (n : Int) = n := by rw [IntKind.wrap_i64]; omega
    have h63' : ¬ (9223372036854775807 < ((c : Int) + (n : Int))) := by omega
    have h48' : ¬ (281474976710656 < Builtin.nextslicecap (c + n) c * i0.bytes) := by
      have := nextslicecap_le (need := c + n) (old := c) (by omega)
      rw [hz2]; omega
    have h48i : ¬ (281474976710656 < (n : Int) * (i0.bytes : Int)) := by rw [hz2]; omega
    have hneg : ¬ ((n : Int) < 0) := by omega
    have hns : ¬ (n * i0.size = 0) := Nat.mul_ne_zero hn0 (by omega)
    simp [Builtin.append_, run_underlying Tryz.underlying48, run_underlying Tryz.underlying3, sizeOf, typeInfo, zeroValue, hi, hz0, asInt, asIntOf, hw, hneg, hns, h63', h48', h48i, hcn, hold, Question.forced, newRow, grownCap]
  refine ⟨_, _, hr, ?_, grownCap_ge w (c + n) c 3, ((Below.refl _ _).drew).alloc (Nat.le_refl _) _⟩
  have e : (kcells c H).toArray ++ Builtin.zeroCells (Value.int .i64 0).cells n = (kcells (c + n) (fun k => if k < c then H k else 0)).toArray := by
    rw [show (Value.int .i64 0).cells = #[Value.int .i64 0] from rfl, zero_kcells, List.append_toArray, kcells_app]
  obtain ⟨Z, hZ⟩ : ∃ Z : List Value, Z = (Builtin.zeroCells (Value.int .i64 0).cells (grownCap w (c + n) c 3 - (c + n))).toList := ⟨_, rfl⟩
  refine ⟨Z, ?_⟩
  rw [e, show ((kcells (c + n) (fun k => if k < c then H k else 0)).toArray ++ Builtin.zeroCells (Value.int .i64 0).cells (grownCap w (c + n) c 3 - (c + n))) = (kcells (c + n) (fun k => if k < c then H k else 0) ++ Z).toArray by apply Array.toList_inj.1; rw [hZ]; simp]
  exact heap_alloc_new w.drew (.cells (kcells (c + n) (fun k => if k < c then H k else 0) ++ Z).toArray 3)

/-! ### The rows as they are made -/
def rowsP (m W i : Nat) (q cp : Nat → Nat) : List Value := (List.range m).map fun t => if t < i then Value.slice (some ⟨q t, 0, none⟩) W (cp t) else Value.slice none 0 0
theorem rowsP_length (m W i : Nat) (q cp : Nat → Nat) : (rowsP m W i q cp).length = m := by simp [rowsP]
theorem rowsP_get {m W i t : Nat} (q cp : Nat → Nat) (h : t < m) : (rowsP m W i q cp)[t]? = some (if t < i then Value.slice (some ⟨q t, 0, none⟩) W (cp t) else Value.slice none 0 0) := by
  rw [rowsP, List.getElem?_map, List.getElem?_range h]; rfl
def up (q : Nat → Nat) (i g : Nat) : Nat → Nat := fun t => if t = i then g else q t
theorem up_at (q : Nat → Nat) (i g : Nat) : up q i g i = g := if_pos rfl
theorem up_ne {q : Nat → Nat} {i g t : Nat} (h : t ≠ i) : up q i g t = q t := if_neg h
theorem rowsP_set (m W i : Nat) (q cp : Nat → Nat) (g c : Nat) : (rowsP m W i q cp).set i (.slice (some ⟨g, 0, none⟩) W c) = rowsP m W (i + 1) (up q i g) (up cp i c) := by
  apply List.ext_getElem?
  intro t
  rw [List.getElem?_set, rowsP_length]
  by_cases ht : t < m
  · rw [rowsP_get _ _ ht, rowsP_get _ _ ht]
    by_cases e : i = t
    · subst e; rw [if_pos rfl, if_pos ht, if_pos (by omega), up_at, up_at]
    · rw [if_neg e, up_ne (fun h => e h.symm), up_ne (fun h => e h.symm)]
      by_cases l : t < i
      · rw [if_pos l, if_pos (by omega)]
      · rw [if_neg l, if_neg (by omega)]
  · rw [List.getElem?_eq_none (by rw [rowsP_length]; omega), List.getElem?_eq_none (by rw [rowsP_length]; omega)]
    split
    · rw [if_neg (by omega)]
    · rfl
theorem made_rows (m W : Nat) (q cp : Nat → Nat) : madeCells #[.slice none 0 0] m = (rowsP m W 0 q cp).toArray := by
  apply Array.toList_inj.1
  rw [toList_madeCells_one]
  apply List.ext_getElem?
  intro i
  by_cases hi : i < m
  · rw [List.toList_toArray, rowsP_get _ _ hi, if_neg (Nat.not_lt_zero _)]; simp [hi]
  · rw [List.getElem?_eq_none (by simp; omega), List.getElem?_eq_none (by simp [rowsP_length]; omega)]

/-- The first i rows are made. -/
structure Bd (B sb f rb m W i : Nat) (q cp : Nat → Nat) (R : Mt) (w : World) : Prop where
  S : SP w sb f
  ltS : sb < B
  ltF : f < B
  ltB : B ≤ w.heap.size
  rge : B ≤ rb
  rows : w.heap[rb]? = some (.cells (rowsP m W i q cp).toArray 48 (0, 0))
  each : ∀ t, t < i → KB w (q t) W (R t)
  ge : ∀ t, t < i → B ≤ q t
  inj : ∀ s t, s < i → t < i → q s = q t → s = t
  cap : ∀ t, t < i → W ≤ cp t
section
variable {w w' : World} {B sb f rb m W i : Nat} {q cp : Nat → Nat} {R : Mt}
theorem Bd.rlt (h : Bd B sb f rb m W i q cp R w) : rb < w.heap.size := lt_of_block h.rows
theorem Bd.free (h : Bd B sb f rb m W i q cp R w) (t : Nat) : w.frozen? ⟨rb, t, none⟩ = false := frozen_of_row w rb t _ _ h.rows
theorem Bd.cell (h : Bd B sb f rb m W i q cp R w) (t : Nat) (ht : t < m) : w.cell? ⟨rb, t, none⟩ = some (if t < i then Value.slice (some ⟨q t, 0, none⟩) W (cp t) else Value.slice none 0 0) := by
  rw [cell_of_row w rb t _ _ _ h.rows, List.getElem?_toArray, rowsP_get q cp ht]
theorem Bd.below (h : Bd B sb f rb m W i q cp R w) (hb : Below w.heap.size w w') : Bd B sb f rb m W i q cp R w' :=
  ⟨h.S.below hb (Nat.le_refl _), h.ltS, h.ltF, Nat.le_trans h.ltB hb.size, h.rge, (hb.block rb h.rlt).trans h.rows, fun t ht => (h.each t ht).below hb (Nat.le_refl _), h.ge, h.inj, h.cap⟩
theorem Bd.ne (h : Bd B sb f rb m W i q cp R w) {g n : Nat} {G : Nat → K} (hG : KB w g n G) : g ≠ rb := by
  intro e
  obtain ⟨Z, hZ⟩ := hG
  rw [e, h.rows] at hZ
  simp at hZ
/-- One row more: it lies behind all others. -/
theorem Bd.put (h : Bd B sb f rb m W i q cp R w) {g c : Nat} (hK : KB w g W (R i)) (hg : B ≤ g) (hn : ∀ t, t < i → q t < g) (hc : W ≤ c) :
    Bd B sb f rb m W (i + 1) (up q i g) (up cp i c) R (w.setCell ⟨rb, i, none⟩ (.slice (some ⟨g, 0, none⟩) W c)) := by
  have gs := gb_set w rb i (.slice (some ⟨g, 0, none⟩) W c)
  refine ⟨h.S.set h.rows (by decide) (by decide) (by decide) gs, h.ltS, h.ltF, Nat.le_trans h.ltB gs.size, h.rge, by rw [heap_set_list _ h.rows, rowsP_set], fun t ht => ?_, fun t ht => ?_, fun s t hs ht e => ?_, fun t ht => ?_⟩
  · by_cases e : t = i
    · rw [e, up_at]; exact hK.of_block (gs.block _ hK.lt (by simp; exact h.ne hK))
    · rw [up_ne e]
      have k := h.each t (by omega)
      exact k.of_block (gs.block _ k.lt (by simp; exact h.ne k))
  · by_cases e : t = i
    · rw [e, up_at]; exact hg
    · rw [up_ne e]; exact h.ge t (by omega)
  · by_cases e1 : s = i
    · by_cases e2 : t = i
      · omega
      · rw [e1, up_at, up_ne e2] at e
        have := hn t (by omega)
        omega
    · by_cases e2 : t = i
      · rw [e2, up_at, up_ne e1] at e
        have := hn s (by omega)
        omega
      · rw [up_ne e1, up_ne e2] at e
        exact h.inj s t (by omega) (by omega) e
  · by_cases e : t = i
    · rw [e, up_at]; exact hc
    · rw [up_ne e]; exact h.cap t (by omega)
theorem Bd.all (h : Bd B sb f rb m W m q cp R w) : RS w B sb f rb m W q cp R := by
  refine ⟨h.S, h.ltS, h.ltF, h.ltB, h.rge, ?_, h.each, h.ge, h.inj, h.cap⟩
  rw [h.rows, show rowsP m W m q cp = rowsL m W q cp from ?_]
  apply List.ext_getElem?
  intro t
  by_cases ht : t < m
  · rw [rowsP_get _ _ ht, rowsL_get _ _ ht, if_pos ht]
  · rw [List.getElem?_eq_none (by rw [rowsP_length]; omega), List.getElem?_eq_none (by rw [rowsL_length]; omega)]
end
end Go.Proofs.YtfjkdmiaagalhaaGreat

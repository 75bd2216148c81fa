/-
  Lz: the statement LzLess, walked: over what the program's Pack and Unpack answer.
-/
import Derived.Test.YtgigiamnhjelmaaDoorLzLaw3
namespace Go.Proofs.YtgigiamnhjelmaaDoor
open Go.RowKit Go.Lib
/-- What repeats itself is packed to little. -/
def PackP (pk : ByteArray → ByteArray) : Prop := ∀ (s : ByteArray) (d : Nat), 1 ≤ d → d ≤ 64 → s.size ≤ 5000 → (∀ i, d ≤ i → i < s.size → bt s i = bt s (i - d)) → (pk s).size ≤ d + 40 + s.size / 200
/-- A make that was reckoned ahead. -/
theorem wpList_make_run {ops : Array Oper} {rest : List Oper} {op : Oper} {a : Act} {w w1 : World} {Q : Exit → Act → World → Prop} (hgd : op.guard = none) (ty : TypeId) (x y : Operand) (ho : op.op = .makeSlice ty x y)
    (p v u : Value) (hx : a.eval x = p) (hy : a.eval y = v) (hr : (Instr.makeSlice ty p v).run Tryd.prog w = .ok u w1)
    (h : wpList Tryd.prog ops Q rest (a.put op.dst u) w1) : wpList Tryd.prog ops Q (op :: rest) a w :=
  wpList_plain hgd fun _ hK => by
    unfold Oper.wp execOp
    simp only [ho, hx, hy, Sem.run_bind, Sem.run_pure, Result.andThen_ok, hr]
    exact hK _ _ h
/-- Bytes in a block of their own. -/
def BQ (w : World) (g : Nat) (L : List UInt8) : Prop := w.heap[g]? = some (.cells (L.map fun b => Value.int .u8 (b.toNat : Int)).toArray 5 (0, 0))
section
variable {w w' : World} {g j : Nat} {L : List UInt8}
theorem BQ.lt (h : BQ w g L) : g < w.heap.size := lt_of_block h
theorem BQ.bel (h : BQ w g L) (hb : Below w.heap.size w w') : BQ w' g L := (hb.block g h.lt).trans h
theorem BQ.set (h : BQ w g L) (b : UInt8) : BQ (w.setCell ⟨g, j, none⟩ (.int .u8 (b.toNat : Int))) g (L.set j b) := by
  have := heap_set_self (j := j) (u := .int .u8 (b.toNat : Int)) h
  unfold BQ
  rw [List.map_set]
  simpa using this
theorem BQ.cell (h : BQ w g L) (hj : j < L.length) : w.cell? ⟨g, j, none⟩ = some (.int .u8 ((L[j]'hj).toNat : Int)) := by
  rw [cell_of_row w g _ _ _ _ h]
  simp [hj]
theorem BQ.free (h : BQ w g L) : w.frozen? ⟨g, j, none⟩ = false := by simp [World.frozen?, BQ] at h ⊢; simp [h]
theorem BQ.str (h : BQ w g L) (c : Nat) : (convert 39 9 (.slice (some ⟨g, 0, none⟩) L.length c)).run Tryd.prog w = .ok (.string ⟨L.toArray⟩) w :=
  run_convert_bytes_back w 39 9 5 ⟨g, 0, none⟩ c L Tryd.underlying39 Tryd.underlying5 Tryd.underlying9 (fun j hj => by
    rw [Addr.add_mid, Nat.zero_add]
    exact h.cell hj)
theorem run_makeB (n : Nat) (hn : n ≤ 5000) (w : World) : ∃ W, (Instr.makeSlice 39 (.int .i64 (n : Int)) (.int .i64 (n : Int))).run Tryd.prog w = .ok (.slice (some ⟨w.heap.size, 0, none⟩) n n) W ∧ BQ W w.heap.size (List.replicate n 0) ∧ Below w.heap.size w W := by
  obtain ⟨i0, hi, hz0, hz1, hz2⟩ := info_parts Tryd.infoU8
  have hr := run_make (P := Tryd.prog) w 39 5 i0 _ Tryd.underlying39 hi hz0 .i64 .i64 (n : Int) (n : Int) (by omega) (Int.le_refl _) (by rw [hz2]; omega) (by omega)
  rw [hz1] at hr
  simp only [Int.toNat_natCast] at hr
  refine ⟨_, hr, ?_, (Below.refl _ _).alloc (Nat.le_refl _) _⟩
  have e : madeCells (Value.int .u8 0).cells (n * 1) = ((List.replicate n (0 : UInt8)).map fun b => Value.int .u8 (b.toNat : Int)).toArray := by
    apply Array.ext'
    rw [Nat.mul_one, show (Value.int .u8 0).cells = #[.int .u8 0] from rfl, toList_madeCells_one]
    simp
  unfold BQ
  rw [← e]
  exact heap_alloc_new w _
end
/-- The first j bytes of a part that is repeated; then zeros. -/
def rpt (p : List UInt8) (n j : Nat) : List UInt8 := (List.range n).map fun i => if i < j then p.getD (i % p.length) 0 else 0
theorem rpt_len (p : List UInt8) (n j : Nat) : (rpt p n j).length = n := by simp [rpt]
theorem rpt_zero (p : List UInt8) (n : Nat) : rpt p n 0 = List.replicate n 0 := by
  rw [rpt]
  apply List.ext_getElem?
  intro i
  simp only [List.getElem?_map, List.getElem?_replicate]
  by_cases h : i < n
  · rw [List.getElem?_range h, if_pos h]; simp
  · rw [List.getElem?_eq_none (by simp; omega), if_neg h]; rfl
theorem rpt_set (p : List UInt8) {n j : Nat} (hj : j < n) : (rpt p n j).set j (p.getD (j % p.length) 0) = rpt p n (j + 1) := by
  apply List.ext_getElem?
  intro i
  rw [List.getElem?_set, rpt_len]
  by_cases e : j = i
  · subst e
    rw [if_pos rfl, if_pos hj, rpt, List.getElem?_map, List.getElem?_range hj]
    simp
  · rw [if_neg e, rpt, rpt, List.getElem?_map, List.getElem?_map]
    by_cases hi : i < n
    · rw [List.getElem?_range hi]
      simp only [Option.map_some]
      by_cases hij : i < j
      · rw [if_pos hij, if_pos (by omega)]
      · rw [if_neg hij, if_neg (by omega)]
    · rw [List.getElem?_eq_none (by simp; omega)]
      rfl
theorem bt_list (L : List UInt8) (i : Nat) : bt ⟨L.toArray⟩ i = (L.getD i 0).toNat := by
  by_cases h : i < L.length
  · have hs : i < (⟨L.toArray⟩ : ByteArray).size := by simpa [ByteArray.size] using h
    rw [bt_at hs, List.getD_eq_getElem?_getD, List.getElem?_eq_getElem h]
    rfl
  · have hs : ¬ i < (⟨L.toArray⟩ : ByteArray).size := by simpa [ByteArray.size] using h
    rw [bt, dif_neg hs, List.getD_eq_getElem?_getD, List.getElem?_eq_none (by omega)]
    rfl
theorem rpt_get (p : List UInt8) {n i : Nat} (hi : i < n) : (rpt p n n).getD i 0 = p.getD (i % p.length) 0 := by
  rw [List.getD_eq_getElem?_getD, rpt, List.getElem?_map, List.getElem?_range hi]
  simp [hi]
theorem rpt_per (p : List UInt8) (n : Nat) {i : Nat} (h1 : p.length ≤ i) (h2 : i < n) : bt ⟨(rpt p n n).toArray⟩ i = bt ⟨(rpt p n n).toArray⟩ (i - p.length) := by
  rw [bt_list, bt_list, rpt_get p h2, rpt_get p (by omega)]
  congr 2
  rw [Nat.mod_eq_sub_mod h1]
section
variable {K : World → Prop} {pk : ByteArray → ByteArray}
end
end Go.Proofs.YtgigiamnhjelmaaDoor

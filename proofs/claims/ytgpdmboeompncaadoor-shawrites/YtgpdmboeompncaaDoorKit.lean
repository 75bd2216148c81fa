/-
  Laws of the walks that hang on no function: a new block under one name, a hash as it lies in memory, the listed variables.
-/
import Derived.Test.YtgpdmboeompncaaDoorTurn
import Derived.Deep.WholeRow
import Derived.Deep.MidRow
import Derived.Lib.LaidTab
import Derived.Lib.SliceRun
import Derived.Lib.BufferWrite
namespace Go.Proofs.YtgpdmboeompncaaDoor
open Go.RowKit Go.Lib

theorem run_alloc_any {P : Program} {t : TypeId} {z : Array Value} (hz : ∀ w, (zeroValue t).run P w = .ok (.agg z) w) (w : World) :
    (Instr.alloc t true (.tuple #[])).run P w = .ok (.pointer (some ⟨w.heap.size, 0, none⟩)) (w.alloc (.cells z t)) := by
  simp [Instr.alloc, Sem.run_bind, hz, newVar, newRow, Value.cells]

/-- A new variable of a type that has several cells. -/
theorem wpList_alloc_any {P : Program} {ops : Array Oper} {rest : List Oper} {o : Oper} {a : Act} {w : World} {Q : Exit → Act → World → Prop} (hgd : o.guard = none) (t : TypeId) (ho : o.op = .alloc t)
    (z : Array Value) (hz : ∀ w, (zeroValue t).run P w = .ok (.agg z) w)
    (h : ∀ w0 : World, w0.heap[w.heap.size]? = some (.cells z t (0, 0)) → w0.heap.size = w.heap.size + 1 → Below w.heap.size w w0 → wpList P ops Q rest (a.put o.dst (.pointer (some ⟨w.heap.size, 0, none⟩))) w0) : wpList P ops Q (o :: rest) a w :=
  wpList_plain hgd fun K hK => by
    unfold Oper.wp execOp
    simp only [ho, Sem.run_bind, run_alloc_any hz, Result.andThen_ok, Sem.run_pure]
    exact hK _ _ (h _ (heap_alloc_new w _) (by simp) ((Below.refl _ _).alloc (Nat.le_refl _) _))

def zeros64 : Array Value := (List.replicate 64 (.int .u32 0)).toArray
theorem zero53 (w : World) : (zeroValue 53).run Tryd.prog w = .ok (.agg zeros64) w :=
  (zero_of_info (P := Tryd.prog) (t := 53) (v := .agg zeros64) (n := 64) (by kernel_rfl)).1 w
def zeros8 : Array Value := (List.replicate 8 (.int .u32 0)).toArray
theorem zero56 (w : World) : (zeroValue 56).run Tryd.prog w = .ok (.agg zeros8) w :=
  (zero_of_info (P := Tryd.prog) (t := 56) (v := .agg zeros8) (n := 8) (by kernel_rfl)).1 w

/-! ### Four bytes are a word -/
theorem wraps_u32 (n : Int) (h₀ : 0 ≤ n) (h₁ : n < 2 ^ 32) : IntKind.u32.wrap n = n := by rw [IntKind.wrap_u32]; omega
theorem or_u32 (a c i : Nat) (hc : c < 2 ^ i) (ha : a * 2 ^ i < 2 ^ 32) (hc32 : c < 2 ^ 32) : bits .or .u32 ((a * 2 ^ i : Nat) : Int) (c : Int) = ((a * 2 ^ i + c : Nat) : Int) := by
  rw [(bits_nat .u32 32 (by decide) wraps_u32 _ _ ha hc32).2, Nat.mul_comm, Nat.two_pow_add_eq_or_of_lt hc]
theorem or4 (a b c d : Nat) (ha : a < 256) (hb : b < 256) (hc : c < 256) (hd : d < 256) :
    bits .or .u32 (bits .or .u32 (bits .or .u32 ((a : Int) % 4294967296 * 16777216 % 4294967296) ((b : Int) % 4294967296 * 65536 % 4294967296)) ((c : Int) % 4294967296 * 256 % 4294967296)) ((d : Int) % 4294967296) =
      ((a * 16777216 + b * 65536 + c * 256 + d : Nat) : Int) := by
  rw [show (a : Int) % 4294967296 * 16777216 % 4294967296 = ((a * 2 ^ 24 : Nat) : Int) by omega, show (b : Int) % 4294967296 * 65536 % 4294967296 = ((b * 65536 : Nat) : Int) by omega,
    show (c : Int) % 4294967296 * 256 % 4294967296 = ((c * 256 : Nat) : Int) by omega, show (d : Int) % 4294967296 = ((d : Nat) : Int) by omega]
  rw [or_u32 a (b * 65536) 24 (by omega) (by omega) (by omega)]
  rw [show a * 2 ^ 24 + b * 65536 = (a * 256 + b) * 2 ^ 16 by omega, or_u32 (a * 256 + b) (c * 256) 16 (by omega) (by omega) (by omega)]
  rw [show (a * 256 + b) * 2 ^ 16 + c * 256 = ((a * 256 + b) * 256 + c) * 2 ^ 8 by omega, or_u32 _ d 8 (by omega) (by omega) (by omega)]

/-! ### A block's cells as a list -/
def setRange {α : Type} : List α → Nat → List α → List α
  | c, _, [] => c
  | c, o, v :: r => setRange (c.set o v) (o + 1) r

theorem setRange_eq {α : Type} : ∀ (vs c : List α) (o : Nat), o + vs.length ≤ c.length → setRange c o vs = c.take o ++ vs ++ c.drop (o + vs.length)
  | [], c, o, _ => by simp [setRange]
  | v :: r, c, o, h => by
    rw [List.length_cons] at h
    rw [setRange, setRange_eq r (c.set o v) (o + 1) (by rw [List.length_set]; omega)]
    rw [List.take_add_one, List.take_set_of_le (Nat.le_refl _), List.drop_set_of_lt (by omega), List.getElem?_set_self (by omega)]
    simp [Nat.add_comm, Nat.add_left_comm]

theorem heap_set_list {w : World} {b o : Nat} {c : List Value} {T : TypeId} {fr : Nat × Nat} (v : Value) (h : w.heap[b]? = some (.cells c.toArray T fr)) : (w.setCell ⟨b, o, none⟩ v).heap[b]? = some (.cells (c.set o v).toArray T fr) := by
  rw [setCell_eq_setRow w b o _ T fr v h, setRow_heap w b _ _ T fr h]
  simp

theorem heap_setCells_list {b : Nat} {T : TypeId} {fr : Nat × Nat} : ∀ (vs : List Value) (w : World) (o : Nat) (c : List Value), w.heap[b]? = some (.cells c.toArray T fr) → (w.setCells b o vs).heap[b]? = some (.cells (setRange c o vs).toArray T fr)
  | [], _, _, _, h => h
  | v :: r, _, o, c, h => heap_setCells_list r _ (o + 1) (c.set o v) (heap_set_list v h)

theorem size_setCells (b : Nat) : ∀ (vs : List Value) (w : World) (o : Nat), (w.setCells b o vs).heap.size = w.heap.size
  | [], _, _ => rfl
  | _ :: r, w, o => by rw [World.setCells, size_setCells b r]; simp
theorem other_setCells (b : Nat) : ∀ (vs : List Value) (w : World) (o k : Nat), k ≠ b → (w.setCells b o vs).heap[k]? = w.heap[k]?
  | [], _, _, _, _ => rfl
  | _ :: r, w, o, k, h => by rw [World.setCells, other_setCells b r _ _ _ h, heap_setCell_other _ _ _ _ h]
theorem tape_setCells (b : Nat) : ∀ (vs : List Value) (w : World) (o : Nat), (w.setCells b o vs).tape = w.tape
  | [], _, _ => rfl
  | _ :: r, w, o => by rw [World.setCells, tape_setCells b r]; rfl
theorem gb_setCells (w : World) (b o : Nat) (vs : List Value) : w.grownBy (w.setCells b o vs) (some b) :=
  have k := World.keptBut_setCells b (may := fun _ => True) vs o w (fun _ _ => trivial)
  ⟨k.1, tape_setCells b vs w o, k.2.1, Nat.le_of_eq (size_setCells b vs w o).symm, fun k _ hk => other_setCells b vs w o k (fun e => hk (by rw [e]))⟩

/-! ### Growth -/
section
variable {w w' : World} {b : Nat}
theorem gb_set (w : World) (b j : Nat) (u : Value) : w.grownBy (w.setCell ⟨b, j, none⟩ u) (some b) :=
  ⟨rfl, rfl, rfl, by simp, fun k _ hk => heap_setCell_other w ⟨b, j, none⟩ k u (fun e => hk (by simp [e]))⟩
theorem gb_setRow (w : World) (b : Nat) (cs : Array Value) : w.grownBy (w.setRow b cs) (some b) :=
  ⟨rfl, rfl, rfl, by simp, fun k _ hk => setRow_other w b k cs (fun e => hk (by simp [e]))⟩
theorem gb_below (h : Below w.heap.size w w') (row : Option Nat) : w.grownBy w' row := ⟨h.os, h.tape, h.output, h.size, fun k hk _ => h.block k hk⟩
theorem gb_trans {w1 w2 : World} {row : Option Nat} (h : w.grownBy w1 row) (k : w1.grownBy w2 row) : w.grownBy w2 row :=
  ⟨k.os.trans h.os, k.tape.trans h.tape, k.output.trans h.output, Nat.le_trans h.size k.size, fun i hi hne => (k.block i (Nat.lt_of_lt_of_le hi h.size) hne).trans (h.block i hi hne)⟩
theorem gb_drewN {w1 : World} {row : Option Nat} (h : w.grownBy w1 row) (n : Nat) : w.grownBy (w1.drewN n) row := ⟨h.os, h.tape, h.output, h.size, h.block⟩
theorem below_drew {B : Nat} (h : Below B w w') (n : Nat) : Below B w (w'.drewN n) := ⟨h.os, h.tape, h.output, h.size, h.block⟩
/-- What turns a new block alone turns nothing below. -/
theorem below_gb {w1 : World} {B : Nat} (h : Below B w w') (hg : w'.grownBy w1 (some b)) (hb : B ≤ b) (hB : B ≤ w'.heap.size) : Below B w w1 :=
  h.grown hg hB (fun k hk => by cases hk; exact hb)
end

/-! ### A hash in memory -/
def word (x : Int) : Value := .int .u32 x
def hCells (v : V8) (bl : List UInt8) (n : Nat) : List Value := v.list.map word ++ (byteCells bl ++ [.int .i64 n])

/-- A hash at block b: its eight words, its block of 64 bytes, how many bytes were written. -/
def HB (w : World) (b : Nat) (v : V8) (bl : List UInt8) (n : Nat) : Prop := bl.length = 64 ∧ w.heap[b]? = some (.cells (hCells v bl n).toArray 60 (0, 0))

theorem hCells_word (v : V8) (bl : List UInt8) (n k : Nat) (h : k < 8) : (hCells v bl n)[k]? = some (word (v.list.getD k 0)) := by
  rw [hCells, List.getElem?_append_left (by simpa [V8.list] using h), List.getElem?_map, List.getD_eq_getElem?_getD, List.getElem?_eq_getElem (by simpa [V8.list] using h)]
  rfl
theorem hCells_byte (v : V8) (bl : List UInt8) (n j : Nat) (h : j < 64) (hl : bl.length = 64) : (hCells v bl n)[8 + j]? = some (.int .u8 ((bl.getD j 0).toNat : Nat)) := by
  rw [hCells, List.getElem?_append_right (by simp [V8.list]), List.getElem?_append_left (by simp [V8.list, byteCells_length, hl]; omega)]
  rw [show 8 + j - (v.list.map word).length = j from by simp [V8.list], byteCells, List.getElem?_map, List.getD_eq_getElem?_getD, List.getElem?_eq_getElem (by omega)]
  rfl
theorem hCells_long (v : V8) (bl : List UInt8) (n : Nat) (hl : bl.length = 64) : (hCells v bl n)[72]? = some (.int .i64 n) := by
  rw [hCells, List.getElem?_append_right (by simp [V8.list]), List.getElem?_append_right (by simp [V8.list, byteCells_length, hl])]
  simp [V8.list, byteCells_length, hl]
theorem hCells_length (v : V8) (bl : List UInt8) (n : Nat) (hl : bl.length = 64) : (hCells v bl n).length = 73 := by
  simp [hCells, V8.list, byteCells_length, hl]
theorem hCells_setLong (v : V8) (bl : List UInt8) (n m : Nat) (hl : bl.length = 64) : (hCells v bl n).set 72 (.int .i64 m) = hCells v bl m := by
  rw [hCells, hCells, List.set_append_right _ _ (by simp [V8.list]), List.set_append_right _ _ (by simp [V8.list, byteCells_length, hl])]
  simp [V8.list, byteCells_length, hl]
theorem hCells_setByte (v : V8) (bl : List UInt8) (n j : Nat) (x : UInt8) (hl : bl.length = 64) (hj : j < 64) : (hCells v bl n).set (8 + j) (.int .u8 (x.toNat : Nat)) = hCells v (bl.set j x) n := by
  rw [hCells, hCells, List.set_append_right _ _ (by simp [V8.list]), List.set_append_left _ _ (by simp [V8.list, byteCells_length, hl]; omega)]
  rw [show 8 + j - (v.list.map word).length = j from by simp [V8.list], byteCells, byteCells, List.map_set]

section
variable {w w' : World} {b : Nat} {v : V8} {bl : List UInt8} {n : Nat}
theorem HB.lt (h : HB w b v bl n) : b < w.heap.size := lt_of_block h.2
theorem HB.cell (h : HB w b v bl n) (k : Nat) : w.cell? ⟨b, k, none⟩ = (hCells v bl n)[k]? := by
  rw [cell_of_row w b k _ _ _ h.2]; simp
theorem HB.word (h : HB w b v bl n) (k : Nat) (hk : k < 8) : w.cell? ⟨b, k, none⟩ = some (.int .u32 (v.list.getD k 0)) := by rw [h.cell, hCells_word _ _ _ _ hk]; rfl
theorem HB.byte (h : HB w b v bl n) (j : Nat) (hj : j < 64) : w.cell? ⟨b, 8 + j, none⟩ = some (.int .u8 ((bl.getD j 0).toNat : Nat)) := by rw [h.cell, hCells_byte _ _ _ _ hj h.1]
theorem HB.long (h : HB w b v bl n) : w.cell? ⟨b, 72, none⟩ = some (.int .i64 n) := by rw [h.cell, hCells_long _ _ _ h.1]
theorem HB.free (h : HB w b v bl n) (j : Nat) : w.frozen? ⟨b, j, none⟩ = false := frozen_of_row w b j _ _ h.2
theorem HB.of_block (h : HB w b v bl n) (hb : w'.heap[b]? = w.heap[b]?) : HB w' b v bl n := ⟨h.1, hb.trans h.2⟩
theorem HB.below (h : HB w b v bl n) {B : Nat} (hb : Below B w w') (hB : b < B) : HB w' b v bl n := h.of_block (hb.block b hB)
theorem HB.grown (h : HB w b v bl n) {row : Option Nat} (hg : w.grownBy w' row) (hne : some b ≠ row) : HB w' b v bl n := h.of_block (hg.block b h.lt hne)
theorem HB.drewN (h : HB w b v bl n) (k : Nat) : HB (w.drewN k) b v bl n := h
theorem HB.setLong (h : HB w b v bl n) (m : Nat) : HB (w.setCell ⟨b, 72, none⟩ (.int .i64 m)) b v bl m := ⟨h.1, by rw [heap_set_list _ h.2, hCells_setLong _ _ _ _ h.1]⟩
theorem HB.setByte (h : HB w b v bl n) (j : Nat) (x : UInt8) (hj : j < 64) : HB (w.setCell ⟨b, 8 + j, none⟩ (.int .u8 (x.toNat : Nat))) b v (bl.set j x) n :=
  ⟨by rw [List.length_set]; exact h.1, by rw [heap_set_list _ h.2, hCells_setByte _ _ _ _ _ h.1 hj]⟩
end

/-! ### Slices of the 64 bytes -/
theorem und58 : Tryd.prog.underlying 58 = some (.array (Tryd.prog.arrayLen 58) (Tryd.prog.elem 58)) := by kernel_rfl
theorem len58 : Tryd.prog.arrayLen 58 = 64 := by kernel_rfl
theorem elem58 (w : World) : (sizeOf (Tryd.prog.elem 58)).run Tryd.prog w = .ok 1 w := by
  have h : Tryd.prog.elem 58 = 5 := by kernel_rfl
  have h5 : (Tryd.prog.info? 5).map (·.size) = some 1 := by kernel_rfl
  rw [h]
  cases hq : Tryd.prog.info? 5 with
  | none => simp [hq] at h5
  | some i =>
    have hs : i.size = 1 := by simpa [hq] using h5
    simp [sizeOf, typeInfo, hq, hs]
theorem slice58_lh (w : World) (b o l h : Nat) (h1 : l ≤ h) (h2 : h ≤ 64) (hl : l < 64) :
    (Instr.sliceAt 58 (.pointer (some ⟨b, o, none⟩)) (some (.int .i64 l)) (some (.int .i64 h)) none).run Tryd.prog w = .ok (.slice (some ⟨b, o + l, none⟩) (h - l) (64 - l)) w := by
  rw [run_sliceAt_array_lh w 58 _ und58 .i64 .i64 l h (by omega) (by omega) (by rw [len58]; omega), elem58, len58]
  simp only [Result.andThen_ok, slicedAt, Int.toNat_natCast, Nat.mul_one, Addr.add_mid]
  rw [if_neg (by omega)]
theorem slice58_l (w : World) (b o l : Nat) (hl : l < 64) :
    (Instr.sliceAt 58 (.pointer (some ⟨b, o, none⟩)) (some (.int .i64 l)) none none).run Tryd.prog w = .ok (.slice (some ⟨b, o + l, none⟩) (64 - l) (64 - l)) w := by
  rw [run_sliceAt_array_l w 58 _ und58 .i64 l (by omega) (by rw [len58]; omega), elem58, len58]
  simp only [Result.andThen_ok, slicedAt, Int.toNat_natCast, Nat.mul_one, Addr.add_mid]
  rw [if_neg (by omega)]
/-- Behind the last one: nothing. -/
theorem slice58_end (w : World) (b o : Nat) :
    (Instr.sliceAt 58 (.pointer (some ⟨b, o, none⟩)) (some (.int .i64 64)) none none).run Tryd.prog w = .ok (.slice (some ⟨b, o, none⟩) 0 0) w := by
  rw [run_sliceAt_array_l w 58 _ und58 .i64 64 (by omega) (by rw [len58]; omega), elem58, len58]
  rfl
theorem slice58_all (w : World) (b o : Nat) :
    (Instr.sliceAt 58 (.pointer (some ⟨b, o, none⟩)) none none none).run Tryd.prog w = .ok (.slice (some ⟨b, o, none⟩) 64 64) w := by
  rw [run_sliceAt_array_all w 58 _ und58, elem58, len58]
  simp only [Result.andThen_ok, slicedAt, Nat.mul_one, Addr.add_mid]
  rfl

/-! ### The listed variables -/
def Laid (w : World) : Prop := (∃ t fr, w.heap[0]? = some (.cells (Ks.map word).toArray t fr)) ∧ ∃ t fr, w.heap[1]? = some (.cells (first.list.map word).toArray t fr)

section
variable {w w' : World}
theorem Laid.size (h : Laid w) : 2 ≤ w.heap.size := by
  obtain ⟨_, t, fr, h1⟩ := h
  exact lt_of_block h1
theorem Laid.of (h : Laid w) (h0 : w'.heap[0]? = w.heap[0]?) (h1 : w'.heap[1]? = w.heap[1]?) : Laid w' := by
  obtain ⟨⟨t, fr, a⟩, t', fr', c⟩ := h
  exact ⟨⟨t, fr, h0.trans a⟩, t', fr', h1.trans c⟩
theorem Laid.below (h : Laid w) {B : Nat} (hb : Below B w w') (hB : 2 ≤ B) : Laid w' := h.of (hb.block 0 (by omega)) (hb.block 1 (by omega))
theorem Laid.grown (h : Laid w) {b : Nat} (hg : w.grownBy w' (some b)) (hb : 2 ≤ b) : Laid w' :=
  have := h.size
  h.of (hg.block 0 (by omega) (by simp; omega)) (hg.block 1 (by omega) (by simp; omega))
theorem Laid.drewN (h : Laid w) (k : Nat) : Laid (w.drewN k) := h
theorem Laid.const (h : Laid w) (i : Nat) (hi : i < 64) : w.cell? ⟨0, i, none⟩ = some (.int .u32 (K i)) := by
  obtain ⟨⟨t, fr, a⟩, _⟩ := h
  rw [cell_of_row w 0 i _ _ _ a]
  have hl : i < Ks.length := hi
  simp [K, word, List.getElem?_eq_getElem hl]
end

end Go.Proofs.YtgpdmboeompncaaDoor

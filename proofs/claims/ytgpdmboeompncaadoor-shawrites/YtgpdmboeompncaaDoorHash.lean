/-
  The contracts of New, Fork, Len and Write.
-/
import Derived.Test.YtgpdmboeompncaaDoorTake
import Derived.Great.BuildSlice
namespace Go.Proofs.YtgpdmboeompncaaDoor
open Go.RowKit Go.Lib

def zeroBl : List UInt8 := List.replicate 64 0
def zeroV : V8 := ⟨0, 0, 0, 0, 0, 0, 0, 0⟩
theorem zero60 (w : World) : (zeroValue 60).run Tryd.prog w = .ok (.agg (hCells zeroV zeroBl 0).toArray) w :=
  (zero_of_info (P := Tryd.prog) (t := 60) (v := .agg (hCells zeroV zeroBl 0).toArray) (n := 73) (by kernel_rfl)).1 w

theorem new_any {w : World} (hL : Laid w) :
    Calls Tryd.prog 14 #[] w fun e w' => e = .returned (.pointer (some ⟨w.heap.size, 0, none⟩)) ∧ HB w' w.heap.size first zeroBl 0 ∧ Below w.heap.size w w' := by
  obtain ⟨_, t, fr, h1⟩ := hL
  go_enter Tryd.func14, Tryd.ntmps14
  go_wp2_with (first | refine wpList_load_row rfl 56 _ rfl 1 rfl t _ fr _ h1 Tryd.underlying56 rfl (by kernel_rfl) ?_ | refine wpList_buildTo rfl 60 _ rfl _ rfl (hCells first zeroBl 0).toArray (by kernel_rfl) ?_)
  go_ret
  exact ⟨rfl, ⟨rfl, heap_alloc_new w _⟩, (Below.refl _ _).alloc (Nat.le_refl _) _⟩

theorem hCells_one (v : V8) (bl : List UInt8) (n : Nat) : (hCells v bl n).toArray.all (·.oneCell') = true := by
  refine all_oneCell_toArray (fun u hu => ?_)
  rcases List.mem_append.1 hu with hu | hu
  · obtain ⟨_, _, rfl⟩ := List.mem_map.1 hu
    rfl
  · rcases List.mem_append.1 hu with hu | hu
    · obtain ⟨_, _, rfl⟩ := List.mem_map.1 hu
      rfl
    · obtain rfl := List.mem_singleton.1 hu
      rfl
theorem hCells_info (v : V8) (bl : List UInt8) (n : Nat) (h : bl.length = 64) : (Tryd.prog.info? 60).map (·.size) = some (hCells v bl n).toArray.size := by
  rw [List.size_toArray, hCells_length _ _ _ h]
  kernel_rfl
theorem hCells_old (v : V8) (bl : List UInt8) (n : Nat) (h : bl.length = 64) : (hCells zeroV zeroBl 0).toArray.size = (hCells v bl n).toArray.size := by
  rw [List.size_toArray, List.size_toArray, hCells_length _ _ _ h, hCells_length _ _ _ rfl]

/-- A copy of a hash, in a block of its own. -/
theorem HB.copy {w w0 : World} {v : V8} {bl : List UInt8} {n : Nat} (hl : bl.length = 64) (hc : w0.heap[w.heap.size]? = some (.cells (hCells zeroV zeroBl 0).toArray 60 (0, 0))) (hs : w0.heap.size = w.heap.size + 1) (hb : Below w.heap.size w w0) :
    HB (w0.setRow w.heap.size (hCells v bl n).toArray) w.heap.size v bl n ∧ Below w.heap.size w (w0.setRow w.heap.size (hCells v bl n).toArray) :=
  ⟨⟨hl, setRow_heap w0 _ _ _ 60 (0, 0) hc⟩, below_gb hb (gb_setRow _ _ _) (Nat.le_refl _) (by omega)⟩

set_option maxRecDepth 100000 in
theorem fork_any {w : World} {b : Nat} {v : V8} {bl : List UInt8} {n : Nat} (h : HB w b v bl n) :
    Calls Tryd.prog 15 #[.pointer (some ⟨b, 0, none⟩)] w fun e w' => e = .returned (.pointer (some ⟨w.heap.size, 0, none⟩)) ∧ HB w' w.heap.size v bl n ∧ Below w.heap.size w w' := by
  have hi := hCells_info v bl n h.1
  go_enter Tryd.func15, Tryd.ntmps15
  go_wp2_with (first | refine wpList_load_row rfl 60 _ rfl b rfl 60 _ (0, 0) _ h.2 Tryd.underlying60 rfl hi ?_ | refine wpList_alloc_any rfl 60 rfl _ zero60 ?_)
  intro w0 hc0 hs0 hb0
  have R := HB.copy (v := v) (n := n) h.1 hc0 hs0 hb0
  go_wp2_with (refine wpList_store_row rfl 60 _ _ rfl _ _ rfl rfl 60 _ hc0 hi (hCells_old v bl n h.1) (hCells_one v bl n) ?_)
  go_ret
  exact ⟨rfl, R⟩

theorem len_any {w : World} {b : Nat} {v : V8} {bl : List UInt8} {n : Nat} (h : HB w b v bl n) :
    Calls Tryd.prog 18 #[.pointer (some ⟨b, 0, none⟩)] w fun e w' => e = .returned (.int .i64 n) ∧ w' = w := by
  have c := h.long
  go_enter Tryd.func18, Tryd.ntmps18
  go_wp2
  go_ret
  exact ⟨rfl, rfl⟩

/-! ### copy of a string into the block -/
theorem size5 (w : World) : (sizeOf 5).run Tryd.prog w = .ok 1 w := by
  have h5 : (Tryd.prog.info? 5).map (·.size) = some 1 := by kernel_rfl
  cases hq : Tryd.prog.info? 5 with
  | none => simp [hq] at h5
  | some i =>
    have hs : i.size = 1 := by simpa [hq] using h5
    simp [sizeOf, typeInfo, hq, hs]

theorem run_copy_any {P : Program} (w : World) (dT sT ty elem : TypeId) (b o dLen dCap m : Nat) (t : ByteArray)
    (hu : P.underlying dT = some (.slice elem)) (hz : ∀ w, (Go.sizeOf elem).run P w = .ok 1 w) (hm : Nat.min t.size dLen = m)
    (hc : ∀ j, j < m → (w.cell? ⟨b, o + j, none⟩).isSome = true) (hf : ∀ j, j < m → w.frozen? ⟨b, o + j, none⟩ = false) :
    (Builtin.copy_ #[dT, sT] ty #[.slice (some ⟨b, o, none⟩) dLen dCap, .string t]).run P w = .ok (goInt m) (w.setCells b o (byteCells (t.data.toList.take m))) := by
  have hmt : m ≤ t.size := by rw [← hm]; exact Nat.min_le_left _ _
  have hl : (byteCells (t.data.toList.take m)).length = m := by rw [byteCells_length, List.length_take, ← Lib.size_eq]; omega
  have hst := run_storeCells_cells (P := P) b o (byteCells (t.data.toList.take m)) 0 w (by rw [hl]; simpa using hc) (by rw [hl]; simpa using hf) (byteCells_one _)
  simp [Builtin.copy_, run_underlying hu, Builtin.lenOf, Builtin.firstCells, hz, hm]
  have e : List.take m (List.map (fun x : UInt8 => Value.int .u8 (x.toNat : Int)) t.data.toList) = byteCells (t.data.toList.take m) := by rw [byteCells, List.map_take]
  rw [e, hst]
  rfl

theorem step_copy_any {P : Program} {ops : Array Oper} {o : Oper} {a : Act} {w : World} {K : Act → World → Prop} {Q : Exit → Act → World → Prop} {E : Prop}
    (hg : o.guard = none) (d x : Operand) (dT sT : TypeId) (hop : o.op = Op.call { callee := Callee.builtin Builtin.copy, args := #[d, x], argTypes := #[dT, sT] })
    (elem : TypeId) (hu : P.underlying dT = some (.slice elem)) (hz : ∀ w, (Go.sizeOf elem).run P w = .ok 1 w)
    (b off dLen dCap m : Nat) (hd : a.eval d = .slice (some ⟨b, off, none⟩) dLen dCap) (t : ByteArray) (hx : a.eval x = .string t) (hm : Nat.min t.size dLen = m)
    (hc : ∀ j, j < m → (w.cell? ⟨b, off + j, none⟩).isSome = true) (hf : ∀ j, j < m → w.frozen? ⟨b, off + j, none⟩ = false)
    (hK : K (a.put o.dst (goInt m)) (w.setCells b off (byteCells (t.data.toList.take m)))) :
    if Region.wanted o (yielded ops a.tmps) = true then Oper.wp P o a w K Q else E := by
  have hw : Region.wanted o (yielded ops a.tmps) = true := by simp [Region.wanted, hg]
  rw [if_pos hw]
  have hrun := run_copy_any (P := P) w dT sT o.type elem b off dLen dCap m t hu hz hm hc hf
  unfold Oper.wp
  simp [execOp, hop, resolve, invoke, builtin, hd, hx, hrun, Result.andThen]
  exact hK

/-! ### What was written -/
theorem block_prefix (s t : List UInt8) (n : Nat) (h : 64 * (n + 1) ≤ s.length) : block (s ++ t) n = block s n := by
  rw [block, block, List.drop_append_of_le_length (by omega), List.take_append_of_le_length (by rw [List.length_drop]; omega)]
theorem blocks_prefix (s t : List UInt8) : ∀ n, 64 * n ≤ s.length → blocks (s ++ t) n = blocks s n
  | 0, _ => rfl
  | n + 1, h => by rw [blocks, blocks, blocks_prefix s t n (by omega), block_prefix s t n h]

/-- A hash at block b, into which s was written. -/
def HS (w : World) (b : Nat) (s : List UInt8) : Prop := ∃ bl, HB w b (blocks s (s.length / 64)) bl s.length ∧ bl.take (s.length % 64) = s.drop (64 * (s.length / 64))

theorem hCells_range (v : V8) (n : Nat) : ∀ (l bl : List UInt8) (j : Nat), bl.length = 64 → j + l.length ≤ 64 → setRange (hCells v bl n) (8 + j) (byteCells l) = hCells v (setRange bl j l) n
  | [], _, _, _, _ => rfl
  | x :: r, bl, j, hl, h => by
    rw [List.length_cons] at h
    show setRange ((hCells v bl n).set (8 + j) (.int .u8 (x.toNat : Nat))) (8 + j + 1) (byteCells r) = _
    rw [hCells_setByte v bl n j x hl (by omega), Nat.add_assoc, hCells_range v n r (bl.set j x) (j + 1) (by rw [List.length_set]; exact hl) (by omega)]
    rfl
theorem setRange_length {α : Type} : ∀ (l c : List α) (o : Nat), (setRange c o l).length = c.length
  | [], _, _ => rfl
  | _ :: r, c, o => by rw [setRange, setRange_length r, List.length_set]
theorem HB.range {w : World} {b : Nat} {v : V8} {bl : List UInt8} {n : Nat} (h : HB w b v bl n) (j : Nat) (l : List UInt8) (hj : j + l.length ≤ 64) : HB (w.setCells b (8 + j) (byteCells l)) b v (setRange bl j l) n :=
  ⟨by rw [setRange_length]; exact h.1, by rw [heap_setCells_list _ _ _ _ h.2, hCells_range v n l bl j h.1 hj]⟩

/-- A piece more, the block not full. -/
theorem HS.part {s u bl : List UInt8} (hl : bl.length = 64) (hbl : bl.take (s.length % 64) = s.drop (64 * (s.length / 64))) (hu : s.length % 64 + u.length < 64) :
    blocks (s ++ u) ((s ++ u).length / 64) = blocks s (s.length / 64) ∧ (setRange bl (s.length % 64) u).take ((s ++ u).length % 64) = (s ++ u).drop (64 * ((s ++ u).length / 64)) := by
  have e1 : (s ++ u).length / 64 = s.length / 64 := by rw [List.length_append]; omega
  have e2 : (s ++ u).length % 64 = s.length % 64 + u.length := by rw [List.length_append]; omega
  refine ⟨by rw [e1, blocks_prefix s u _ (by omega)], ?_⟩
  rw [e1, e2, setRange_eq _ _ _ (by omega), List.drop_append_of_le_length (by omega), ← hbl]
  rw [List.take_append_of_le_length (by simp; omega)]
  exact List.take_of_length_le (by simp; omega)
/-- A piece more, the block full. -/
theorem HS.full {s u bl : List UInt8} (hl : bl.length = 64) (hbl : bl.take (s.length % 64) = s.drop (64 * (s.length / 64))) (hu : s.length % 64 + u.length = 64) :
    blocks (s ++ u) ((s ++ u).length / 64) = takeV (blocks s (s.length / 64)) (setRange bl (s.length % 64) u) ∧ (setRange bl (s.length % 64) u).take ((s ++ u).length % 64) = (s ++ u).drop (64 * ((s ++ u).length / 64)) := by
  have e1 : (s ++ u).length / 64 = s.length / 64 + 1 := by rw [List.length_append]; omega
  have e2 : (s ++ u).length % 64 = 0 := by rw [List.length_append]; omega
  have e3 : setRange bl (s.length % 64) u = block (s ++ u) (s.length / 64) := by
    rw [setRange_eq _ _ _ (by omega), hbl, hu, show bl.drop 64 = [] from List.drop_of_length_le (by omega), block, List.drop_append_of_le_length (by omega), List.append_nil]
    exact (List.take_of_length_le (by simp; omega)).symm
  refine ⟨by rw [e1, blocks, blocks_prefix s u _ (by omega), e3], ?_⟩
  rw [e1, e2, List.take_zero, List.drop_of_length_le (by rw [List.length_append]; omega)]

theorem min_cases (x y : Nat) (hx : 0 < x) (hy : 0 < y) : ∃ m, Nat.min x y = m ∧ m ≤ x ∧ m ≤ y ∧ 0 < m ∧ (m = x ∨ m = y) := by
  rcases Nat.le_total x y with h | h
  · exact ⟨x, Nat.min_eq_left h, Nat.le_refl _, h, hx, .inl rfl⟩
  · exact ⟨y, Nat.min_eq_right h, h, Nat.le_refl _, hy, .inr rfl⟩

theorem toList_rest (u : ByteArray) (m : Nat) : (u.extract m u.size).data.toList = u.data.toList.drop m := by
  rw [ByteArray.data_extract, Array.toList_extract, List.extract_eq_take_drop]
  exact List.take_of_length_le (by rw [List.length_drop, ← Lib.size_eq]; exact Nat.le_refl _)

def strSize : Value → Nat
  | .string s => s.size
  | _ => 0

theorem und50 : Tryd.prog.underlying 50 = some (.slice 5) := by kernel_rfl

set_option maxHeartbeats 1600000 in
set_option maxRecDepth 100000 in
theorem write_any {w : World} {b : Nat} {s : List UInt8} (t : ByteArray) (hL : Laid w) (h : HS w b s) (hb2 : 2 ≤ b) (hs : s.length + t.size ≤ 1000000000000) :
    Calls Tryd.prog 16 #[.pointer (some ⟨b, 0, none⟩), .string t] w fun e w' => e = .returned (.tuple #[]) ∧ HS w' b (s ++ t.data.toList) ∧ Laid w' ∧ w.grownBy w' (some b) := by
  go_enter Tryd.func16, Tryd.ntmps16
  go_wp2
  go_loopw [1, 4] (fun x _ wr => ∃ (u : ByteArray) (r : List UInt8), x = .string u ∧ r ++ u.data.toList = s ++ t.data.toList ∧ HS wr b r ∧ Laid wr ∧ w.grownBy wr (some b))
    (fun x _ _ => strSize x)
  case atStart => exact ⟨t, s, rfl, rfl, h, hL, World.grownBy.refl _ _⟩
  case round =>
    obtain ⟨u, r, rfl, he, ⟨bl, hr, hbl⟩, hLr, hg⟩ := hrel
    have HE : Hid (r ++ u.data.toList = s ++ t.data.toList) := he
    have hle : r.length + u.size ≤ 1000000000000 := by
      have := congrArg List.length he
      simp only [List.length_append, ← Lib.size_eq] at this
      omega
    clear he
    by_cases hu : u.size = 0
    · have hu0 : u.data.toList = [] := List.eq_nil_of_length_eq_zero (by rw [← Lib.size_eq]; exact hu)
      have hfin : HS wr b (s ++ t.data.toList) := by
        rw [← HE.out, hu0, List.append_nil]
        exact ⟨bl, hr, hbl⟩
      go_wp2
      go_end0
      exact ⟨rfl, hfin, hLr, hg⟩
    · have cl := hr.long
      obtain ⟨a, ha⟩ : ∃ a, a = r.length % 64 := ⟨_, rfl⟩
      have ha64 : a < 64 := by omega
      obtain ⟨m, hm, hmu, hm64, hm0, hmor⟩ := min_cases u.size (64 - a) (by omega) (by omega)
      have hml : (u.data.toList.take m).length = m := by rw [List.length_take, ← Lib.size_eq]; omega
      have hsl := fun w' => slice58_l w' b 8 a ha64
      have hmod : Int.tmod (r.length : Int) 64 = (a : Int) := by rw [Int.tmod_eq_emod_of_nonneg (by omega)]; omega
      have hr2 := HB.range (show HB wr.drew b (blocks r (r.length / 64)) bl r.length from hr) a (u.data.toList.take m) (by omega)
      have hg2 : w.grownBy (wr.drew.setCells b (8 + a) (byteCells (u.data.toList.take m))) (some b) := gb_trans (gb_trans hg (gb_drewN (World.grownBy.refl _ _) 1)) (gb_setCells wr.drew b _ _)
      have cl2 := hr2.long
      have hc : ∀ j, j < m → (wr.cell? ⟨b, 8 + a + j, none⟩).isSome = true := fun j hj => by rw [Nat.add_assoc, hr.byte (a + j) (by omega)]; rfl
      have hf : ∀ j, j < m → wr.frozen? ⟨b, 8 + a + j, none⟩ = false := fun j _ => hr.free _
      have HC : Hid _ := hc
      have HF : Hid _ := hf
      have HM : Hid _ := hm
      have HA : Hid _ := ha
      have HO : Hid _ := hmor
      clear hc hf hm ha hmor
      go_wp2
      go_region_held3 (fun w' => w'.cell? ⟨b, 72, none⟩ = some (.int .i64 r.length)) (go_keep)
        (first | (refine step_copy_any rfl (.tmp 16) (.tmp 17) 50 9 rfl 5 und50 size5 b (8 + a) (64 - a) (64 - a) m (by simp [Act.eval]) u (by simp [Act.eval]) HM.out (by exact HC.out) (by exact HF.out) ?_))
      have hL2 := hLr.grown (gb_trans (gb_drewN (World.grownBy.refl _ _) 1) (gb_setCells wr.drew b (8 + a) (byteCells (u.data.toList.take m)))) hb2
      generalize wr.drew.setCells b (8 + a) (byteCells (u.data.toList.take m)) = w1 at *
      have hE2 : Hid ((r ++ u.data.toList.take m) ++ (u.extract m u.size).data.toList = s ++ t.data.toList) := by
        show (r ++ u.data.toList.take m) ++ (u.extract m u.size).data.toList = s ++ t.data.toList
        rw [← HE.out, List.append_assoc, toList_rest u m, List.take_append_drop]
      have hbl64 := hr.1
      clear hr hg hLr cl HC HF HE
      have hf2 := hr2.free 72
      have hr3 := hr2.setLong (r.length + m)
      have hg3 := gb_trans hg2 (gb_set w1 b 72 (.int .i64 (r.length + m : Nat)))
      have hL3 := hL2.grown (gb_set w1 b 72 (.int .i64 (r.length + m : Nat))) hb2
      have cl3 := hr3.long
      rw [Int.natCast_add] at hr3 hg3 hL3 cl3
      have hlen : (r ++ u.data.toList.take m).length = r.length + m := by rw [List.length_append, hml]
      have hsm : (u.extract m u.size).size < u.size := by rw [ByteArray.size_extract]; omega
      rw [HA.out] at hr3
      by_cases hful : a + m = 64
      · have htm : ((r.length : Int) + m) % 64 = 0 := by
          have := HA.out
          omega
        have F := HS.full hbl64 hbl (u := u.data.toList.take m) (by rw [hml, ← HA.out]; exact hful)
        clear HM HO hmod hsl
        go_wp2_with fail
        refine (takeIn_any hL3 hr3 hb2).mono ?_
        rintro e w4 ⟨rfl, hr4, hg4⟩
        have hS : HS w4 b (r ++ u.data.toList.take m) := ⟨_, by rw [F.1, hlen]; exact hr4, F.2⟩
        go_wp2
        exact ⟨⟨_, _, rfl, hE2.out, hS, hL3.grown hg4 hb2, gb_trans hg3 hg4⟩, hsm⟩
      · have htm : (((r.length : Int) + m) % 64 == 0) = false := by
          have := HA.out
          simp
          omega
        have F := HS.part hbl64 hbl (u := u.data.toList.take m) (by rw [hml, ← HA.out]; omega)
        have hS : HS (w1.setCell ⟨b, 72, none⟩ (.int .i64 ((r.length : Int) + m))) b (r ++ u.data.toList.take m) := ⟨_, by rw [F.1, hlen]; exact hr3, F.2⟩
        clear HM HO hmod hsl
        go_wp2
        exact ⟨⟨_, _, rfl, hE2.out, hS, hL3, hg3⟩, hsm⟩

end Go.Proofs.YtgpdmboeompncaaDoor

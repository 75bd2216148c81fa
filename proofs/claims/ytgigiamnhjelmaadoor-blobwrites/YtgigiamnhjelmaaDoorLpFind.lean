/-
  Lz: what is repeated, by the program: how many bytes are the same; where four were seen last.
-/
import Derived.Test.YtgigiamnhjelmaaDoorLpKey
import Derived.Test.YtgigiamnhjelmaaDoorLpRound
import Derived.Deep.WholeRow
import Derived.Deep.MidRow
import Derived.Lib.SliceRun
import Derived.Great.BuildSlice
import Derived.Laws.IdiomCopy
namespace Go.Proofs.YtgigiamnhjelmaaDoor
open Go.RowKit Go.Lib
/-- A finder in memory. -/
def FB (w : World) (b : Nat) (s : ByteArray) (mb : Nat) (v : Value) : Prop := w.heap[b]? = some (.cells #[.string s, .map (some mb), v] 60 (0, 0))
/-- Nothing old is turned. -/
abbrev Same (w w' : World) : Prop := Gs (fun _ => False) w w'
section
variable {w w' : World} {b mb k i f : Nat} {s : ByteArray} {v : Value}
theorem FB.lt (h : FB w b s mb v) : b < w.heap.size := lt_of_block h
theorem FB.gs {p : Nat → Prop} (h : FB w b s mb v) (hg : Gs p w w') (hp : ¬ p b) : FB w' b s mb v := (hg.block b h.lt hp).trans h
theorem Gs.dn {p : Nat → Prop} (h : Gs p w w') (q : Nat) : Gs p w (w'.drewN q) := ⟨h.os, h.tape, h.output, h.size, h.block⟩
set_option maxRecDepth 100000 in
set_option maxHeartbeats 1600000 in
theorem same_any (h : FB w b s mb v) (hf : f < i) (hi : i ≤ s.size) (hs : s.size ≤ 5000) : Calls Tryd.prog 67 #[.pointer (some ⟨b, 0, none⟩), .int .i64 (f : Int), .int .i64 (i : Int)] w fun e w' => e = .returned (.int .i64 ((sm s f i : Nat) : Int)) ∧ Same w w' := by
  have H0 := hide h
  obtain ⟨R, hR⟩ : ∃ R, sm s f i = R := ⟨_, rfl⟩
  rw [hR]
  have HR : Hid (smG s f i (s.size - i) 0 = R) := hR
  clear h hR
  go_enter Tryd.func67, Tryd.ntmps67
  go_wp2
  go_loopw [7] (fun x wr => ∃ n : Nat, x = .int .i64 (n : Int) ∧ i + n ≤ s.size ∧ smG s f i (s.size - i - n) n = R ∧ Same w wr) (fun x _ => s.size - (Go.RowKit.intOf x).toNat)
  case atStart => exact ⟨0, rfl, hi, HR.out, Gs.refl _ _⟩
  case round =>
    obtain ⟨n, rfl, hn, hq, hS⟩ := hrel
    have hF := H0.out.gs hS (fun e => e)
    have c0 := (cell3 hF).1
    have e0 : IntKind.i64.wrap ((i : Int) + (n : Int)) = (i : Int) + (n : Int) := by rw [IntKind.wrap_i64]; omega
    have e1 : IntKind.i64.wrap ((f : Int) + (n : Int)) = (f : Int) + (n : Int) := by rw [IntKind.wrap_i64]; omega
    have HS := hide hS
    by_cases hlt : i + n < s.size
    · have d1 : (i : Int) + (n : Int) < (s.size : Int) := by omega
      have d2 : decide ((i : Int) + (n : Int) < (s.size : Int)) = true := by simpa using d1
      have x1 := ix_at (s := s) (i := f + n) (by omega)
      have x2 := ix_at (s := s) (i := i + n) hlt
      rw [show ((f + n : Nat) : Int) = (f : Int) + (n : Int) by omega] at x1
      rw [show ((i + n : Nat) : Int) = (i : Int) + (n : Int) by omega] at x2
      have hq1 : smG s f i (s.size - i - n) n = if i + n < s.size ∧ bt s (f + n) = bt s (i + n) then smG s f i (s.size - i - (n + 1)) (n + 1) else n := by
        rw [show s.size - i - n = (s.size - i - (n + 1)) + 1 by omega, smG]
      rw [hq1] at hq
      clear hq1
      obtain ⟨B1, hB1⟩ : ∃ B1, bt s (f + n) = B1 := ⟨_, rfl⟩
      obtain ⟨B2, hB2⟩ : ∃ B2, bt s (i + n) = B2 := ⟨_, rfl⟩
      rw [hB1] at x1 hq
      rw [hB2] at x2 hq
      clear hB1 hB2 hS hF
      by_cases hb : B1 = B2
      · rw [if_pos ⟨hlt, hb⟩] at hq
        have HQ := hide hq
        have d3 : ((B1 : Int) == (B2 : Int)) = true := by simp [hb]
        have HBB := hide hb
        clear hq hb
        go_upto_region 2 with fail
        go_cut [35] (fun t wx => t = .bool true ∧ Same w wx)
        case first =>
          go_quiet (fail)
          go_wp2
          go_meet
          exact ⟨by first | rfl | rw [d3], HS.out.dn _⟩
        case rest =>
          obtain ⟨rfl, hS2⟩ := hcut
          have HS2 := hide hS2
          have e3 : IntKind.i64.wrap ((n : Int) + 1) = (n : Int) + 1 := by rw [IntKind.wrap_i64]; omega
          clear hS2
          go_wp2
          exact ⟨⟨n + 1, by go_num, by omega, HQ.out, HS2.out⟩, by simp [Go.RowKit.intOf]; omega⟩
      · rw [if_neg (fun e => hb e.2)] at hq
        have HQ := hide hq
        have d3 : ((B1 : Int) == (B2 : Int)) = false := by simp; omega
        clear hq hb
        go_upto_region 2 with fail
        go_cut [35] (fun t wx => t = .bool false ∧ Same w wx)
        case first =>
          go_quiet (fail)
          go_wp2
          go_meet
          exact ⟨by first | rfl | rw [d3], HS.out.dn _⟩
        case rest =>
          obtain ⟨rfl, hS2⟩ := hcut
          have HS2 := hide hS2
          clear hS2
          go_wp2
          go_ret
          exact ⟨congrArg (fun r : Nat => Ending.returned (Value.int .i64 (r : Int))) HQ.out, HS2.out⟩
    · have d1 : ¬ (i : Int) + (n : Int) < (s.size : Int) := by omega
      have d2 : decide ((i : Int) + (n : Int) < (s.size : Int)) = false := by simpa using d1
      rw [show s.size - i - n = 0 by omega] at hq
      have HQ : Hid (n = R) := hq
      clear hq hS hF
      go_upto_region 2 with fail
      go_cut [35] (fun t wx => t = .bool false ∧ Same w wx)
      case first =>
        go_quiet (fail)
        go_wp2
        go_meet
        exact ⟨by first | rfl | rw [d2], HS.out.dn _⟩
      case rest =>
        obtain ⟨rfl, hS2⟩ := hcut
        have HS2 := hide hS2
        clear hS2
        go_wp2
        go_ret
        exact ⟨congrArg (fun r : Nat => Ending.returned (Value.int .i64 (r : Int))) HQ.out, HS2.out⟩
theorem run_copy_any {P : Program} (w : World) (dT sT ty elem : TypeId) (b o dLen dCap m : Nat) (t : ByteArray)
    (hu : P.underlying dT = some (.slice elem)) (hz : ∀ w, (Go.sizeOf elem).run P w = .ok 1 w) (hm : Nat.min t.size dLen = m)
    (hc : ∀ j, j < m → (w.cell? ⟨b, o + j, none⟩).isSome = true) (hf : ∀ j, j < m → w.frozen? ⟨b, o + j, none⟩ = false) :
    (Builtin.copy_ #[dT, sT] ty #[.slice (some ⟨b, o, none⟩) dLen dCap, .string t]).run P w = .ok (goInt m) (w.setCells b o (byteCells (t.data.toList.take m))) := by
  have hmt : m ≤ t.size := by rw [← hm]; exact Nat.min_le_left _ _
  have hl : (byteCells (t.data.toList.take m)).length = m := by rw [byteCells_length, List.length_take, ← Lib.size_eq]; omega
  have hst := run_storeCells_cells (P := P) b o (byteCells (t.data.toList.take m)) 0 w (by rw [hl]; simpa using hc) (by rw [hl]; simpa using hf) (byteCells_one _)
  simp [Builtin.copy_, run_underlying hu, Builtin.lenOf, Builtin.firstCells, hz, hm]
  have e : List.take m (List.map (fun x : UInt8 => Value.int .u8 (x.toNat : Int)) t.data.toList) = byteCells (t.data.toList.take m) := by rw [byteCells, List.map_take]
  rw [e, hst]
  rfl
def putAll (cs : Array Value) : Nat → List Value → Array Value
  | _, [] => cs
  | o, v :: r => putAll (cs.setIfInBounds o v) (o + 1) r
theorem setCells_self {T : TypeId} {b : Nat} {fr : Nat × Nat} : ∀ (vs : List Value) (o : Nat) (w : World) (cs : Array Value), w.heap[b]? = some (.cells cs T fr) → (w.setCells b o vs).heap[b]? = some (.cells (putAll cs o vs) T fr)
  | [], _, _, _, h => h
  | v :: r, o, w, cs, h => by rw [World.setCells, putAll]; exact setCells_self r _ _ _ (heap_set_self h)
theorem Gs.cells {p : Nat → Prop} {w : World} {b : Nat} : ∀ (vs : List Value) (o : Nat) (w1 : World), Gs p w w1 → (p b ∨ w.heap.size ≤ b) → Gs p w (w1.setCells b o vs)
  | [], _, _, h, _ => h
  | v :: r, o, w1, h, hb => by rw [World.setCells]; exact Gs.cells r _ _ (h.set (a := ⟨b, o, none⟩) hb v) hb
theorem sizeU8_any (w : World) : (Go.sizeOf 5).run Tryd.prog w = .ok 1 w := by
  have h5 : (Tryd.prog.info? 5).map (·.size) = some 1 := by kernel_rfl
  cases hq : Tryd.prog.info? 5 with
  | none => simp [hq] at h5
  | some i =>
    have hs : i.size = 1 := by simpa [hq] using h5
    simp [sizeOf, typeInfo, hq, hs]
/-- Four bytes in a block. -/
def KB (w : World) (g : Nat) (a b c d : Nat) : Prop := w.heap[g]? = some (.cells #[b8 a, b8 b, b8 c, b8 d] 125 (0, 0))
theorem four_cells {w : World} {g a b c d : Nat} (h : KB w g a b c d) : w.cell? ⟨g, 0, none⟩ = some (.int .u8 (a : Int)) ∧ w.cell? ⟨g, 1, none⟩ = some (.int .u8 (b : Int)) ∧ w.cell? ⟨g, 2, none⟩ = some (.int .u8 (c : Int)) ∧ w.cell? ⟨g, 3, none⟩ = some (.int .u8 (d : Int)) := by
  have h' : w.heap[g]? = _ := h
  simp [World.cell?, h', b8]
theorem bytes_four {s : ByteArray} {k : Nat} (h : k + 4 ≤ s.size) : byteCells ((s.extract k s.size).data.toList.take 4) = [b8 (bt s k), b8 (bt s (k + 1)), b8 (bt s (k + 2)), b8 (bt s (k + 3))] := by
  have hz : s.data.toList.length = s.size := by simp
  rw [ByteArray.data_extract, Array.toList_extract]
  show byteCells (List.take 4 (List.take (s.size - k) (List.drop k s.data.toList))) = _
  rw [List.take_take, Nat.min_eq_left (by omega)]
  apply List.ext_getElem
  · simp [byteCells_length]; omega
  · intro i h1 h2
    simp at h2
    have h3 : k + i < s.size := by omega
    simp only [byteCells, List.getElem_map, List.getElem_take, List.getElem_drop]
    have h4 : ∀ (j : Nat) (hj : j < 4), Value.int .u8 (((s.data.toList[k + j]'(by rw [hz]; omega)).toNat : Nat) : Int) = b8 (bt s (k + j)) := fun j hj => by rw [b8, bt_at (by omega)]; rfl
    have hi : i = 0 ∨ i = 1 ∨ i = 2 ∨ i = 3 := by omega
    rcases hi with rfl | rfl | rfl | rfl
    · exact h4 0 (by decide)
    · exact h4 1 (by decide)
    · exact h4 2 (by decide)
    · exact h4 3 (by decide)
theorem cp_key {w : World} {g k : Nat} {s : ByteArray} (hg : KB w g 0 0 0 0) (hk : k ≤ s.size) : ∃ wc m, (Builtin.copy_ #[39, 9] 3 #[.slice (some ⟨g, 0, none⟩) 4 4, .string (s.extract k s.size)]).run Tryd.prog w = .ok (.int .i64 ((m : Nat) : Int)) wc ∧ m = min (s.size - k) 4 ∧ Gs (fun i => i = g) w wc ∧ (k + 4 ≤ s.size → KB wc g (bt s k) (bt s (k + 1)) (bt s (k + 2)) (bt s (k + 3))) := by
  have hz : (s.extract k s.size).size = s.size - k := by rw [ByteArray.size_extract]; omega
  have hc : ∀ j, j < 4 → (w.cell? ⟨g, j, none⟩).isSome = true ∧ w.frozen? ⟨g, j, none⟩ = false := fun j hj => by
    have hg' : w.heap[g]? = _ := hg
    match j, hj with
    | 0, _ => simp [World.cell?, World.frozen?, hg']
    | 1, _ => simp [World.cell?, World.frozen?, hg']
    | 2, _ => simp [World.cell?, World.frozen?, hg']
    | 3, _ => simp [World.cell?, World.frozen?, hg']
  have hr := run_copy_any (P := Tryd.prog) w 39 9 3 5 g 0 4 4 (min (s.size - k) 4) (s.extract k s.size) Tryd.underlying39 sizeU8_any (by rw [hz]) (fun j hj => by rw [Nat.zero_add]; exact (hc j (by omega)).1) (fun j hj => by rw [Nat.zero_add]; exact (hc j (by omega)).2)
  refine ⟨_, _, hr, rfl, Gs.cells _ _ _ (Gs.refl _ _) (.inl rfl), fun h4 => ?_⟩
  have := setCells_self (byteCells ((s.extract k s.size).data.toList.take (min (s.size - k) 4))) 0 w _ hg
  rw [Nat.min_eq_right (by omega), bytes_four h4] at this ⊢
  exact this
theorem und4 : Tryd.prog.underlying 125 = some (.array (Tryd.prog.arrayLen 125) (Tryd.prog.elem 125)) := by kernel_rfl
theorem len4 : Tryd.prog.arrayLen 125 = 4 := by kernel_rfl
theorem elem4 (w : World) : (sizeOf (Tryd.prog.elem 125)).run Tryd.prog w = .ok 1 w := by
  have h : Tryd.prog.elem 125 = 5 := by kernel_rfl
  rw [h]
  exact sizeU8_any w
theorem slice4_all (w : World) (b : Nat) :
    (Instr.sliceAt 125 (.pointer (some ⟨b, 0, none⟩)) none none none).run Tryd.prog w = .ok (.slice (some ⟨b, 0, none⟩) 4 4) w := by
  rw [run_sliceAt_array_all w 125 _ und4, elem4, len4]
  simp only [Result.andThen_ok, slicedAt, Nat.mul_one, Addr.add_mid]
  rfl
theorem step_mup_run {P : Program} {ops : Array Oper} {o : Oper} {a : Act} {w : World} {K : Act → World → Prop} {Q : Exit → Act → World → Prop} {E : Prop} (hgd : o.guard = none) (ty : TypeId) (x y z : Operand) (ho : o.op = .mapUpdate ty x y z)
    (p u v : Value) (hx : a.eval x = p) (hy : a.eval y = u) (hz : a.eval z = v) (w' : World) (hr : (Instr.mapUpdate ty p u v).run P w = .ok () w') (h : K (a.put o.dst undef) w') :
    if Region.wanted o (yielded ops a.tmps) = true then Oper.wp P o a w K Q else E := by
  have hw : Region.wanted o (yielded ops a.tmps) = true := by simp [Region.wanted, hgd]
  rw [if_pos hw]
  unfold Oper.wp execOp
  simp only [ho, hx, hy, hz, Sem.run_bind, Sem.run_pure, Result.andThen_ok, hr]
  exact h
/-- Where the four bytes of a place were seen before, as a number. -/
def bf (s : ByteArray) (i : Nat) : Int := match pv s i with
  | some j => (j : Int)
  | none => -1
theorem bf_few {k : Nat} (h : ¬ k + 4 ≤ s.size) : bf s k = -1 := by rw [bf, pv_few h]
theorem bf_lu {k : Nat} (h : k + 4 ≤ s.size) : bf s k = match luG s k k with
    | some j => (j : Int)
    | none => -1 := by
  rw [bf, pv, if_pos h, luG_pv h k (Nat.le_refl _)]
set_option maxRecDepth 100000 in
set_option maxHeartbeats 1600000 in
theorem see_any (h : FB w b s mb v) (hm : MF w mb s k) (hk : k ≤ s.size) (hs : s.size ≤ 5000) : Calls Tryd.prog 77 #[.pointer (some ⟨b, 0, none⟩), .int .i64 (k : Int)] w fun e w' => e = .returned (.int .i32 (bf s k)) ∧ MF w' mb s (k + 1) ∧ Gs (fun i => i = mb) w w' := by
  obtain ⟨g, hg⟩ : ∃ g, g = w.heap.size := ⟨_, rfl⟩
  obtain ⟨W, hW⟩ : ∃ W, w.alloc (.cells #[.int .u8 0, .int .u8 0, .int .u8 0, .int .u8 0] 125) = W := ⟨_, rfl⟩
  have hBW : Below w.heap.size w W := by rw [← hW]; exact (Below.refl _ _).alloc (Nat.le_refl _) _
  have kW : KB W g 0 0 0 0 := by rw [← hW, hg]; exact heap_alloc_new w _
  have kWd : KB W.drew g 0 0 0 0 := kW
  obtain ⟨W2, m, hcp, hm2, hG2, hK2⟩ := cp_key kWd hk
  have hGW : Gs (fun _ => False) w W2 := ⟨hG2.os.trans hBW.os, hG2.tape.trans hBW.tape, hG2.output.trans hBW.output, Nat.le_trans hBW.size hG2.size, fun i hi _ => (hG2.block i (Nat.lt_of_lt_of_le hi hBW.size) (by omega)).trans (hBW.block i hi)⟩
  have h2 := h.gs hGW (fun e => e)
  have hm3 := hm.gs hGW (fun e => e)
  have D0 : Hid (W.drew.cell? ⟨b, 0, none⟩ = some (.string s)) := (cell3 ((hBW.block b h.lt).trans h)).1
  have D2 : Hid (W2.cell? ⟨b, 0, none⟩ = some (.string s)) := (cell3 h2).1
  have hsl := fun w => slice4_all w g
  have hsf := sl_from (r := s) (a := k) hk
  have c2 := (cell3 h2).2.1
  have HW := hide hW
  have HG := hide hg
  have H2 := hide (And.intro hm3 (And.intro hGW (And.intro hm2 h2)))
  by_cases h4 : k + 4 ≤ s.size
  · obtain rfl : m = 4 := by omega
    have k2 := hK2 h4
    have hbf := bf_lu (s := s) h4
    obtain ⟨W3, hup, hM3, hG3⟩ := (show MF W2.drew.drew mb s k from hm3).update (by omega) h4
    have hlk := (show MF W2.drew mb s k from hm3).look k
    obtain ⟨o, ho⟩ : ∃ o, luG s k k = o := ⟨_, rfl⟩
    rw [ho] at hlk hbf
    have ho2 : ∀ j, o = some j → j < k := fun j e => luG_lt (ho.trans e)
    have hG3' : Gs (fun i => i = mb) w W3 := (H2.out.2.1.mono fun i _ e => e.elim).trans ⟨hG3.os, hG3.tape, hG3.output, hG3.size, hG3.block⟩
    have hgm : g ≠ mb := fun e => by subst e; exact hm3.notCells k2
    have k3 : KB W3 g (bt s k) (bt s (k + 1)) (bt s (k + 2)) (bt s (k + 3)) := (hG3.block g (lt_of_block k2) hgm).trans k2
    have h3 : FB W3 b s mb v := (hG3.block b (lt_of_block h2) (fun e => by subst e; exact hm3.notCells h2)).trans h2
    rw [kV] at hlk hup
    have q0 : KB W2 g (bt s k) (bt s (k + 1)) (bt s (k + 2)) (bt s (k + 3)) := k2
    obtain ⟨x0, hx0⟩ : ∃ x, bt s k = x := ⟨_, rfl⟩
    obtain ⟨x1, hx1⟩ : ∃ x, bt s (k + 1) = x := ⟨_, rfl⟩
    obtain ⟨x2, hx2⟩ : ∃ x, bt s (k + 2) = x := ⟨_, rfl⟩
    obtain ⟨x3, hx3⟩ : ∃ x, bt s (k + 3) = x := ⟨_, rfl⟩
    rw [hx0, hx1, hx2, hx3] at hlk hup k3 q0
    simp only [b8] at hlk hup
    obtain ⟨v0, v1, v2, v3⟩ := four_cells q0
    have D4 : Hid (W2.drew.drew.cell? ⟨b, 1, none⟩ = some (.map (some mb)) ∧ W2.drew.drew.cell? ⟨g, 0, none⟩ = some (.int .u8 (x0 : Int)) ∧ W2.drew.drew.cell? ⟨g, 1, none⟩ = some (.int .u8 (x1 : Int)) ∧ W2.drew.drew.cell? ⟨g, 2, none⟩ = some (.int .u8 (x2 : Int)) ∧ W2.drew.drew.cell? ⟨g, 3, none⟩ = some (.int .u8 (x3 : Int))) := ⟨c2, v0, v1, v2, v3⟩
    have D5 : Hid (W3.cell? ⟨b, 1, none⟩ = some (.map (some mb)) ∧ W3.cell? ⟨g, 0, none⟩ = some (.int .u8 (x0 : Int)) ∧ W3.cell? ⟨g, 1, none⟩ = some (.int .u8 (x1 : Int)) ∧ W3.cell? ⟨g, 2, none⟩ = some (.int .u8 (x2 : Int)) ∧ W3.cell? ⟨g, 3, none⟩ = some (.int .u8 (x3 : Int))) := ⟨(cell3 h3).2.1, (four_cells k3).1, (four_cells k3).2.1, (four_cells k3).2.2.1, (four_cells k3).2.2.2⟩
    have e32 : IntKind.i32.wrap (k : Int) = (k : Int) := by rw [IntKind.wrap_i32]; omega
    have HE : Hid (MF W3 mb s (k + 1) ∧ Gs (fun i => i = mb) w W3) := ⟨hM3, hG3'⟩
    have HBF := hide hbf
    have HO := hide ho2
    clear h hm hW hg hBW kW kWd hm2 hG2 hK2 hGW h2 hm3 k2 hbf ho ho2 hG3 hG3' hM3 k3 h3 q0 hx0 hx1 hx2 hx3 hgm H2
    go_enter Tryd.func77, Tryd.ntmps77
    go_wp2
    rw [HW.out, ← HG.out]
    go_region_held_law (fun w' => w'.cell? ⟨b, 0, none⟩ = some (.string s)) (first | with_reducible exact D0.out | with_reducible exact D2.out) (first | (refine step_copy_run rfl (some 15) rfl _ _ 39 9 rfl _ _ rfl rfl _ _ hcp ?_))
    go_wp2
    go_region
    go_wp2
    go_region_held_law (fun w' => w'.cell? ⟨b, 1, none⟩ = some (.map (some mb)) ∧ w'.cell? ⟨g, 0, none⟩ = some (.int .u8 (x0 : Int)) ∧ w'.cell? ⟨g, 1, none⟩ = some (.int .u8 (x1 : Int)) ∧ w'.cell? ⟨g, 2, none⟩ = some (.int .u8 (x2 : Int)) ∧ w'.cell? ⟨g, 3, none⟩ = some (.int .u8 (x3 : Int))) (first | with_reducible exact D4.out | with_reducible exact D5.out) (first | (refine step_mup_run rfl 57 _ _ _ rfl _ _ _ rfl rfl rfl _ hup ?_))
    cases o with
    | none =>
      go_wp2
      go_ret
      exact ⟨by rw [HBF.out]; rfl, HE.out⟩
    | some j =>
      go_wp2
      go_ret
      exact ⟨by rw [HBF.out]; rfl, HE.out⟩
  · have hbf := bf_few (s := s) h4
    rw [hbf]
    have hmn : (m : Int) < 4 := by omega
    have HS := hide (hm3.skip h4)
    clear h hm hW hg hBW kW kWd hm2 hG2 hK2 hGW h2 hm3 hbf
    go_enter Tryd.func77, Tryd.ntmps77
    go_wp2
    rw [HW.out, ← HG.out]
    go_region_held_law (fun w' => w'.cell? ⟨b, 0, none⟩ = some (.string s)) (first | with_reducible exact D0.out | with_reducible exact D2.out) (first | (refine step_copy_run rfl (some 15) rfl _ _ 39 9 rfl _ _ rfl rfl _ _ hcp ?_))
    go_wp2
    go_ret
    exact ⟨rfl, HS.out, H2.out.2.1.mono fun i _ e => e.elim⟩
end
end Go.Proofs.YtgigiamnhjelmaaDoor

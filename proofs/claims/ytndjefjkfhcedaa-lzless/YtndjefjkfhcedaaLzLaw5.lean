/-
  Lz: the statement LzLess, walked: over what the program's Pack and Unpack answer.
-/
import Derived.Test.YtndjefjkfhcedaaLzLaw3
namespace Go.Proofs.Ytndjefjkfhcedaa
open Go.RowKit Go.Lib
/-- What repeats itself is packed to little. -/
def PackP (pk : ByteArray → ByteArray) : Prop := ∀ (s : ByteArray) (d : Nat), 1 ≤ d → d ≤ 64 → s.size ≤ 5000 → (∀ i, d ≤ i → i < s.size → bt s i = bt s (i - d)) → (pk s).size ≤ d + 40 + s.size / 200
/-- A make that was reckoned ahead. -/
theorem wpList_make_run {ops : Array Oper} {rest : List Oper} {op : Oper} {a : Act} {w w1 : World} {Q : Exit → Act → World → Prop} (hgd : op.guard = none) (ty : TypeId) (x y : Operand) (ho : op.op = .makeSlice ty x y)
    (p v u : Value) (hx : a.eval x = p) (hy : a.eval y = v) (hr : (Instr.makeSlice ty p v).run Try.prog w = .ok u w1)
    (h : wpList Try.prog ops Q rest (a.put op.dst u) w1) : wpList Try.prog ops Q (op :: rest) a w :=
  wpList_plain hgd fun _ hK => by
    unfold Oper.wp execOp
    simp only [ho, hx, hy, Sem.run_bind, Sem.run_pure, Result.andThen_ok, hr]
    exact hK _ _ h
/-- Bytes in a block of their own. -/
def BQ (w : World) (g : Nat) (L : List UInt8) : Prop := w.heap[g]? = some (.cells (L.map fun b => Value.int .u8 (b.toNat : Int)).toArray 5 (0, 0))
section
variable {w w' : World} {g j : Nat} {L : List UInt8}
theorem BQ.lt (h : BQ w g L) : g < w.heap.size := lt_of_block h
theorem BQ.bel (h : BQ w g L) (hb : Below w.heap.size w w') : BQ w' g L := (hb.block g h.lt).trans h
theorem BQ.set (h : BQ w g L) (b : UInt8) : BQ (w.setCell ⟨g, j, none⟩ (.int .u8 (b.toNat : Int))) g (L.set j b) := by
  have := heap_set_self (j := j) (u := .int .u8 (b.toNat : Int)) h
  unfold BQ
  rw [List.map_set]
  simpa using this
theorem BQ.cell (h : BQ w g L) (hj : j < L.length) : w.cell? ⟨g, j, none⟩ = some (.int .u8 ((L[j]'hj).toNat : Int)) := by
  rw [cell_of_row w g _ _ _ _ h]
  simp [hj]
theorem BQ.free (h : BQ w g L) : w.frozen? ⟨g, j, none⟩ = false := by simp [World.frozen?, BQ] at h ⊢; simp [h]
theorem BQ.str (h : BQ w g L) (c : Nat) : (convert 43 9 (.slice (some ⟨g, 0, none⟩) L.length c)).run Try.prog w = .ok (.string ⟨L.toArray⟩) w :=
  run_convert_bytes_back w 43 9 5 ⟨g, 0, none⟩ c L Try.underlying43 Try.underlying5 Try.underlying9 (fun j hj => by
    rw [Addr.add_mid, Nat.zero_add]
    exact h.cell hj)
theorem run_makeB (n : Nat) (hn : n ≤ 5000) (w : World) : ∃ W, (Instr.makeSlice 43 (.int .i64 (n : Int)) (.int .i64 (n : Int))).run Try.prog w = .ok (.slice (some ⟨w.heap.size, 0, none⟩) n n) W ∧ BQ W w.heap.size (List.replicate n 0) ∧ Below w.heap.size w W := by
  obtain ⟨i0, hi, hz0, hz1, hz2⟩ := info_parts Try.infoU8
  have hr := run_make (P := Try.prog) w 43 5 i0 _ Try.underlying43 hi hz0 .i64 .i64 (n : Int) (n : Int) (by omega) (Int.le_refl _) (by rw [hz2]; omega) (by omega)
  rw [hz1] at hr
  simp only [Int.toNat_natCast] at hr
  refine ⟨_, hr, ?_, (Below.refl _ _).alloc (Nat.le_refl _) _⟩
  have e : madeCells (Value.int .u8 0).cells (n * 1) = ((List.replicate n (0 : UInt8)).map fun b => Value.int .u8 (b.toNat : Int)).toArray := by
    apply Array.ext'
    rw [Nat.mul_one, show (Value.int .u8 0).cells = #[.int .u8 0] from rfl, toList_madeCells_one]
    simp
  unfold BQ
  rw [← e]
  exact heap_alloc_new w _
end
/-- The first j bytes of a part that is repeated; then zeros. -/
def rpt (p : List UInt8) (n j : Nat) : List UInt8 := (List.range n).map fun i => if i < j then p.getD (i % p.length) 0 else 0
theorem rpt_len (p : List UInt8) (n j : Nat) : (rpt p n j).length = n := by simp [rpt]
theorem rpt_zero (p : List UInt8) (n : Nat) : rpt p n 0 = List.replicate n 0 := by
  rw [rpt]
  apply List.ext_getElem?
  intro i
  simp only [List.getElem?_map, List.getElem?_replicate]
  by_cases h : i < n
  · rw [List.getElem?_range h, if_pos h]; simp
  · rw [List.getElem?_eq_none (by simp; omega), if_neg h]; rfl
theorem rpt_set (p : List UInt8) {n j : Nat} (hj : j < n) : (rpt p n j).set j (p.getD (j % p.length) 0) = rpt p n (j + 1) := by
  apply List.ext_getElem?
  intro i
  rw [List.getElem?_set, rpt_len]
  by_cases e : j = i
  · subst e
    rw [if_pos rfl, if_pos hj, rpt, List.getElem?_map, List.getElem?_range hj]
    simp
  · rw [if_neg e, rpt, rpt, List.getElem?_map, List.getElem?_map]
    by_cases hi : i < n
    · rw [List.getElem?_range hi]
      simp only [Option.map_some]
      by_cases hij : i < j
      · rw [if_pos hij, if_pos (by omega)]
      · rw [if_neg hij, if_neg (by omega)]
    · rw [List.getElem?_eq_none (by simp; omega)]
      rfl
theorem bt_list (L : List UInt8) (i : Nat) : bt ⟨L.toArray⟩ i = (L.getD i 0).toNat := by
  by_cases h : i < L.length
  · have hs : i < (⟨L.toArray⟩ : ByteArray).size := by simpa [ByteArray.size] using h
    rw [bt_at hs, List.getD_eq_getElem?_getD, List.getElem?_eq_getElem h]
    rfl
  · have hs : ¬ i < (⟨L.toArray⟩ : ByteArray).size := by simpa [ByteArray.size] using h
    rw [bt, dif_neg hs, List.getD_eq_getElem?_getD, List.getElem?_eq_none (by omega)]
    rfl
theorem rpt_get (p : List UInt8) {n i : Nat} (hi : i < n) : (rpt p n n).getD i 0 = p.getD (i % p.length) 0 := by
  rw [List.getD_eq_getElem?_getD, rpt, List.getElem?_map, List.getElem?_range hi]
  simp [hi]
theorem rpt_per (p : List UInt8) (n : Nat) {i : Nat} (h1 : p.length ≤ i) (h2 : i < n) : bt ⟨(rpt p n n).toArray⟩ i = bt ⟨(rpt p n n).toArray⟩ (i - p.length) := by
  rw [bt_list, bt_list, rpt_get p h2, rpt_get p (by omega)]
  congr 2
  rw [Nat.mod_eq_sub_mod h1]
section
variable {K : World → Prop} {pk : ByteArray → ByteArray}
set_option maxRecDepth 100000 in
set_option maxHeartbeats 1600000 in
theorem less12 (hK : Kept K) (hF : PackF pk) (hQ : PackP pk) (hU : UnpackC K) (hP : PackC K pk) {w : World} (hk : K w) (s : ByteArray) (x : Int) (hs : s.size ≤ 4611686018427387904) : Calls Try.prog 6 #[.string s, .int .i64 x] w fun e w' => e = .returned (.bool true) ∧ Below w.heap.size w w' := by
  have HW := hide (works12 hU hk)
  by_cases h0 : s.size = 0
  · have e0 : s = ⟨#[]⟩ := ByteArray.ext (Array.toList_inj.1 (by
      have : s.data.toList.length = 0 := by simpa using h0
      rw [List.length_eq_zero_iff.1 this]))
    subst e0
    clear hU hP hK hQ hF
    go_enter Try.func6, Try.ntmps6
    go_wp2_with fail
    refine HW.out.mono ?_
    rintro _ w2 ⟨rfl, hb⟩
    have HB2 := hide hb
    clear hb
    go_wp2
    go_ret
    exact ⟨rfl, HB2.out⟩
  have n1 : s.toList.isEmpty = false := by
    rw [bytes_list]
    exact List.isEmpty_eq_false_iff.2 (fun e => h0 (by have := congrArg List.length e; simpa using this))
  have n2 : ¬ s.toList = [] := fun e => by rw [e] at n1; cases n1
  by_cases h1 : 64 < s.size
  · have c1 : (64 : Int) < (s.size : Int) := by omega
    clear hU hP hK hQ hF
    go_enter Try.func6, Try.ntmps6
    go_wp2_with fail
    refine HW.out.mono ?_
    rintro _ w2 ⟨rfl, hb⟩
    have HB2 := hide hb
    clear hb
    go_wp2
    go_ret
    exact ⟨rfl, HB2.out⟩
  have c1 : ¬ (64 : Int) < (s.size : Int) := by omega
  obtain ⟨n, hn⟩ : ∃ n, amg x 5000 = n := ⟨_, rfl⟩
  obtain ⟨_, hn5, _, _⟩ := amg_spec x 5000 (by decide)
  rw [hn] at hn5
  have HA : Hid (∀ wx, Calls Try.prog 18 #[.int .i64 x, .int .i64 5000] wx fun e w' => e = .returned (.int .i64 (n : Int)) ∧ w' = wx) := fun wx => by rw [← hn]; exact among_any wx x 5000 (by decide) (by decide)
  have hpl : s.data.toList.length = s.size := by simp
  obtain ⟨S, hS⟩ : ∃ S : ByteArray, (⟨(rpt s.data.toList n n).toArray⟩ : ByteArray) = S := ⟨_, rfl⟩
  have hSz : S.size = n := by rw [← hS]; simpa [ByteArray.size] using rpt_len s.data.toList n n
  have hsm : (pk S).size ≤ s.size + 40 + n / 200 := by
    have := hQ S s.size (by omega) (by omega) (by omega) (fun i h2 h3 => by rw [← hS, ← hpl]; exact rpt_per _ _ (by rw [hpl]; exact h2) (by omega))
    rw [hSz] at this
    exact this
  have HPK : Hid (∀ wx, Below w.heap.size w wx → Calls Try.prog 17 #[.string S] wx fun e w' => e = .returned (.tuple #[.string (pk S), .int .i64 0]) ∧ Below wx.heap.size wx w') := fun wx h => by
    have := hP wx S (hK _ _ hk h) (by omega) (by omega)
    rw [pkV, if_pos (by omega)] at this
    exact this
  have HUX : Hid (∀ wx, Below w.heap.size w wx → Calls Try.prog 10 #[.string (pk S), .int .i64 (n : Int)] wx fun e w' => e = .returned (.tuple #[.string S, .int .i64 0]) ∧ Below wx.heap.size wx w') := fun wx h => by
    obtain ⟨u1, u2⟩ := hF.up (s := S) (by omega)
    have := hU wx (pk S) (n : Int) (hK _ _ hk h) (by omega)
    rw [← hSz, u1, u2, hSz] at this
    exact this
  obtain ⟨P, hPP⟩ : ∃ P, pk S = P := ⟨_, rfl⟩
  rw [hPP] at HPK HUX hsm
  have HIX : Hid (∀ (r : Nat) (wx : World), r < s.size → (Instr.index 9 (.string s) (.int .i64 (r : Int))).run Try.prog wx = .ok (.int .u8 ((s.data.toList.getD r 0).toNat : Int)) wx) := fun r wx hr => by
    have := ix_at hr wx
    rw [this]
    have e := bt_list s.data.toList r
    rw [show (⟨s.data.toList.toArray⟩ : ByteArray) = s from by cases s; rfl] at e
    rw [e]
  have HS := hide (And.intro hS hpl)
  clear hU hP hK hQ hF hn hS hPP hpl hSz
  go_enter Try.func6, Try.ntmps6
  go_wp2_with fail
  refine HW.out.mono ?_
  rintro _ w2 ⟨rfl, hb2⟩
  have HB2 := hide hb2
  clear hb2
  go_wp2_with fail
  refine (HA.out w2).mono ?_
  rintro _ w3 ⟨rfl, hw3⟩
  subst hw3
  obtain ⟨w4, hmk, hBQ, hb4⟩ := run_makeB n (by omega) w3
  have HB4 := hide (And.intro (below_step HB2.out hb4) hBQ)
  obtain ⟨g, hg⟩ : ∃ g, w3.heap.size = g := ⟨_, rfl⟩
  have HG := hide hg
  have hgw : w.heap.size ≤ g := by rw [← hg]; exact HB2.out.size
  clear hBQ hb4
  rw [hg] at hmk
  clear hg
  go_wp2_with (refine wpList_make_run rfl _ _ _ rfl _ _ _ rfl rfl hmk ?_)
  go_loopw [26] (fun i wr => ∃ j : Nat, j ≤ n ∧ i = .int .i64 (j : Int) ∧ BQ wr g (rpt s.data.toList n j) ∧ Below w.heap.size w wr) (fun i _ => n - (Go.RowKit.intOf i).toNat)
  case atStart => exact ⟨0, Nat.zero_le _, rfl, by rw [rpt_zero, ← HG.out]; exact HB4.out.2, HB4.out.1⟩
  case round =>
    obtain ⟨j, hj, rfl, hq, hb⟩ := hrel
    by_cases hlt : j < n
    · obtain ⟨r, hr⟩ : ∃ r, j % s.size = r := ⟨_, rfl⟩
      have hrs : r < s.size := by rw [← hr]; exact Nat.mod_lt _ (by omega)
      have ix := fun wx => HIX.out r wx hrs
      have q1 : (j : Int).tmod (s.size : Int) = (r : Int) := by rw [← hr]; rfl
      have q2 : ¬ (s.size : Int) = 0 := by omega
      have q3 : IntKind.i64.wrap (r : Int) = (r : Int) := by rw [IntKind.wrap_i64]; omega
      have y1 := hq.cell (j := j) (by rw [rpt_len]; exact hlt)
      have y2 := hq.free (j := j)
      have hset := hq.set (j := j) (s.data.toList.getD (j % s.data.toList.length) 0)
      rw [rpt_set _ hlt, HS.out.2, hr] at hset
      have HE := hide (And.intro hset (hb.setCell (show w.heap.size ≤ (⟨g, j, none⟩ : Addr).block from hgw) (.int .u8 ((s.data.toList.getD r 0).toNat : Int))))
      have b0 : (0 : Int) ≤ (j : Int) := by omega
      have b1 : (j : Int) < (n : Int) := by omega
      have b2 : (0 : Int) ≤ (r : Int) := by omega
      have b3 : (r : Int) < (s.size : Int) := by omega
      generalize (rpt s.data.toList n j)[j]'(by rw [rpt_len]; exact hlt) = old at y1
      generalize s.data.toList.getD r 0 = bb at *
      clear hset hq hb hr
      go_wp2
      exact ⟨⟨j + 1, by omega, by go_num, HE.out.1, HE.out.2⟩, by simp [Go.RowKit.intOf]; omega⟩
    · obtain rfl : j = n := by omega
      have hcv := hq.str j
      rw [rpt_len, HS.out.1] at hcv
      have HE := hide (And.intro hq hb)
      clear hq hb
      go_wp2_with fail
      refine (HPK.out wr HE.out.2).mono ?_
      rintro _ w7 ⟨rfl, hb7⟩
      have HB7 := hide (And.intro (below_step HE.out.2 hb7) (HE.out.1.bel hb7))
      clear hb7 hcv
      go_wp2_with fail
      refine (HUX.out w7 HB7.out.1).mono ?_
      rintro _ w8 ⟨rfl, hb8⟩
      have hcv8 := (HB7.out.2.bel hb8).str j
      rw [rpt_len, HS.out.1] at hcv8
      have HB8 := hide (below_step HB7.out.1 hb8)
      have d1 : (P.size : Int) ≤ (s.size : Int) + 40 + (j : Int) / 200 := by omega
      have d2 : IntKind.i64.wrap ((s.size : Int) + 40) = (s.size : Int) + 40 := by rw [IntKind.wrap_i64]; omega
      have d3 : IntKind.i64.wrap ((j : Int) / 200) = (j : Int) / 200 := by rw [IntKind.wrap_i64]; omega
      have d4 : IntKind.i64.wrap ((s.size : Int) + 40 + (j : Int) / 200) = (s.size : Int) + 40 + (j : Int) / 200 := by rw [IntKind.wrap_i64]; omega
      have d5 : (j : Int).tdiv 200 = (j : Int) / 200 := rfl
      have d6 : decide ((P.size : Int) ≤ (s.size : Int) + 40 + (j : Int) / 200) = true := by simpa using d1
      clear hb8
      go_wp2
      go_ret
      exact ⟨rfl, HB8.out⟩
end
end Go.Proofs.Ytndjefjkfhcedaa

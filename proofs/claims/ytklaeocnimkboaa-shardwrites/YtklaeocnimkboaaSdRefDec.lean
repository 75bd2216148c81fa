/-
  Encode and Decode, as the document has them.
-/
import Derived.Test.YtklaeocnimkboaaSdRefText
import Derived.Test.YtklaeocnimkboaaSdDec
namespace Go.Proofs.Ytklaeocnimkboaa
open Go.RowKit Go.Lib

/-- An operation that reads alone is taken first. -/
theorem take_at {ops : Array Oper} {Q : Exit → Act → World → Prop} {S : World → Prop} {i d : Nat} {oi : Oper} {v : Value} {fuel : Nat} {listed : Array Bool} {a : Act} {w : World} (hi : ops[i]? = some oi) (hd : oi.dst = some d)
    (hs : Region.noSelect ops = true) (hf : Region.free .any ops listed i = true) (hr : (Region.ready .any ops listed).contains i = true)
    (hQ : ∀ c a w, Q (.panic c) (a.put oi.dst v) w → Q (.panic c) a w) (hy : YieldsIf Try.prog ops S oi v a) (hS : S w)
    (h : wpAnyH Try.prog .any ops Q S fuel (listed.setIfInBounds i true) ⟨a.tmps.setIfInBounds d v, a.defers⟩ w) : wpAnyH Try.prog .any ops Q S (fuel + 1) listed a w :=
  wpAnyH_take hi hs hf hr hQ hy hS (by rw [hd]; exact h)

theorem idx_at {s : ByteArray} {j : Nat} (h : j < s.size) (w : World) : (Instr.index 9 (.string s) (.int .i64 (j : Int))).run Try.prog w = .ok (.int .u8 ((s.data.toList.getD j 0).toNat : Int)) w := by
  rw [run_index_string _ _ _ _ _ Try.underlying9, dif_pos ⟨by omega, by omega⟩]
  congr 2
  simp only [Int.toNat_natCast]
  have : s.data.toList.getD j 0 = s[j] := by
    have hl : j < s.data.toList.length := by rw [bsize]; exact h
    rw [List.getD, List.getElem?_eq_getElem hl]
    rfl
  rw [this]
theorem sl_at {s : ByteArray} {a b : Nat} (h1 : a ≤ b) (h2 : b ≤ s.size) (w : World) : (Instr.slice 9 (.string s) (some (.int .i64 (a : Int))) (some (.int .i64 (b : Int))) none).run Try.prog w = .ok (.string (s.extract a b)) w := by
  have := run_slice_string (P := Try.prog) w 9 s .i64 .i64 (a : Int) (b : Int) Try.underlying9 (by omega) (by omega) (by omega)
  simpa using this

set_option maxRecDepth 100000 in
set_option maxHeartbeats 1600000 in
theorem refDecode_ok (s : ByteArray) (w : World) (hs : s.size ≤ 1000000) (h : decOK s.data.toList) :
    Calls Try.prog 10 #[.string s] w fun e w' => ∃ (k m i long : Nat) (id data : ByteArray), e = .returned (.tuple #[.agg #[.int .i64 k, .int .i64 m, .int .i64 i, .int .i64 long, .string id, .string data], .int .i64 0]) ∧
      (⟨k, m, i, long, id, data⟩ : SX) = decX s.data.toList ∧ Below w.heap.size w w' := by
  have HO := hide h
  have h47 : 47 ≤ s.size := by rw [← bsize]; exact h.1
  have X := SK.new 29 w 0 0 0 0 ⟨#[]⟩ ⟨#[]⟩
  obtain ⟨W, hW⟩ : ∃ W, W = w.alloc (.cells #[.int .i64 0, .int .i64 0, .int .i64 0, .int .i64 0, .string ⟨#[]⟩, .string ⟨#[]⟩] 29) := ⟨_, rfl⟩
  have HB : Hid (Below w.heap.size w W) := by rw [hW]; exact below_alloc (Below.refl _ _) _
  rw [← hW] at X
  have HW := hide hW
  have HX := hide X
  have hl := X.lt
  have q1 : (47 : Int) ≤ s.size := by omega
  have q2 : ¬ ((s.size : Int) < 47) := by omega
  have i4 : ∀ w : World, (Instr.index 9 (.string s) (.int .i64 4)).run Try.prog w = .ok (.int .u8 ((s.data.toList.getD 4 0).toNat : Int)) w := fun w => idx_at (j := 4) (by omega) w
  have i5 : ∀ w : World, (Instr.index 9 (.string s) (.int .i64 5)).run Try.prog w = .ok (.int .u8 ((s.data.toList.getD 5 0).toNat : Int)) w := fun w => idx_at (j := 5) (by omega) w
  have i6 : ∀ w : World, (Instr.index 9 (.string s) (.int .i64 6)).run Try.prog w = .ok (.int .u8 ((s.data.toList.getD 6 0).toNat : Int)) w := fun w => idx_at (j := 6) (by omega) w
  have v1 : ∀ w : World, (Instr.slice 9 (.string s) (some (.int .i64 7)) (some (.int .i64 11)) none).run Try.prog w = .ok (.string (s.extract 7 11)) w := fun w => sl_at (a := 7) (b := 11) (by decide) (by omega) w
  have v2 : ∀ w : World, (Instr.slice 9 (.string s) (some (.int .i64 11)) (some (.int .i64 43)) none).run Try.prog w = .ok (.string (s.extract 11 43)) w := fun w => sl_at (a := 11) (b := 43) (by decide) (by omega) w
  have v3 : ∀ w : World, (Instr.slice 9 (.string s) (some (.int .i64 43)) (some (.int .i64 ((s.size : Int) - 4))) none).run Try.prog w = .ok (.string (s.extract 43 (s.size - 4))) w := fun w => by
    have := sl_at (a := 43) (b := s.size - 4) (s := s) (by omega) (by omega) w
    rw [show ((s.size - 4 : Nat) : Int) = (s.size : Int) - 4 by omega] at this
    exact this
  have q3 : IntKind.i64.wrap ((s.size : Int) - 4) = (s.size : Int) - 4 := by rw [IntKind.wrap_i64]; omega
  have HNM : Hid (∀ (v : Value) (w' : World), v = .string (s.extract 7 11) → Calls Try.prog 19 #[v] w' fun e w'' => e = .returned (.int .i64 ((Nm.numOf (s.extract 7 11).data.toList : Nat) : Int)) ∧ w'' = w') := fun v w' hv => by
    subst hv
    exact refNum_any _ w' (by simp; omega)
  have hD : (⟨(s.data.toList.getD 4 0).toNat, (s.data.toList.getD 5 0).toNat, (s.data.toList.getD 6 0).toNat, Nm.numOf (s.extract 7 11).data.toList, s.extract 11 43, s.extract 43 (s.size - 4)⟩ : SX) = decX s.data.toList := by
    rw [decX, num_four s (p := 7) (by omega), ext_back, ext_back, bsize, show 43 - 11 = 32 from rfl, show s.size - 4 - 43 = s.size - 47 by omega]
  have bk := (s.data.toList.getD 4 0).toNat_lt
  have bm := (s.data.toList.getD 5 0).toNat_lt
  have bi := (s.data.toList.getD 6 0).toNat_lt
  have bl : Nm.numOf (s.extract 7 11).data.toList < 4294967296 := by
    have := Nm.numOf_lt (s.extract 7 11).data.toList
    rw [show (s.extract 7 11).data.toList.length = 4 by rw [bsize]; simp; omega] at this
    exact this
  have z1 : (s.extract 11 43).size ≤ 1000000 := by simp; omega
  have z2 : (s.extract 43 (s.size - 4)).size ≤ 1000000 := by simp; omega
  generalize (s.data.toList.getD 4 0).toNat = k at *
  generalize (s.data.toList.getD 5 0).toNat = m at *
  generalize (s.data.toList.getD 6 0).toNat = i at *
  generalize Nm.numOf (s.extract 7 11).data.toList = long at *
  generalize s.extract 7 11 = T at *
  generalize s.extract 11 43 = id at *
  generalize s.extract 43 (s.size - 4) = data at *
  have e1 : IntKind.i64.wrap (k : Int) = k := by rw [IntKind.wrap_i64]; omega
  have e2 : IntKind.i64.wrap (m : Int) = m := by rw [IntKind.wrap_i64]; omega
  have e3 : IntKind.i64.wrap (i : Int) = i := by rw [IntKind.wrap_i64]; omega
  have HD := hide hD
  have hO2 := HO.out.2.1
  have hO3 := HO.out.2.2
  rw [← hD] at hO2 hO3
  have HOK := hide hO2
  have HA : Hid (bs (fullL ⟨k, m, i, long, id, data⟩) = s) := by show _ = s; rw [hO3, bs_of]
  clear hO2 hO3
  clear X hW h hD
  go_enter Try.func10, Try.ntmps10
  go_upto_region 3 with fail
  rw [← HW.out]
  refine wp_region_noPanic ?_
  refine wp_region_held_drew (S := fun _ => True) (by kernel_rfl) trivial (fun hHeld => ?_)
  refine take_at (i := 0) (d := 9) (v := .string s) rfl rfl (by kernel_rfl) (by kernel_rfl) (by kernel_rfl) (fun _ _ _ h => h) (Or.inl ⟨by rfl, fun w' hSw => ?_⟩) hHeld ?_
  · go_simp
  simp only [List.setIfInBounds_toArray, List.set_cons_zero, List.set_cons_succ]
  refine take_at (i := 1) (d := 10) (v := .int .u8 (k : Int)) rfl rfl (by kernel_rfl) (by kernel_rfl) (by kernel_rfl) (fun _ _ _ h => h) (Or.inl ⟨by rfl, fun w' hSw => ?_⟩) hHeld ?_
  · go_simp
  simp only [List.setIfInBounds_toArray, List.set_cons_zero, List.set_cons_succ]
  refine take_at (i := 2) (d := 11) (v := .int .i64 (k : Int)) rfl rfl (by kernel_rfl) (by kernel_rfl) (by kernel_rfl) (fun _ _ _ h => h) (Or.inl ⟨by rfl, fun w' hSw => ?_⟩) hHeld ?_
  · go_simp
  simp only [List.setIfInBounds_toArray, List.set_cons_zero, List.set_cons_succ]
  refine take_at (i := 3) (d := 12) (v := .string s) rfl rfl (by kernel_rfl) (by kernel_rfl) (by kernel_rfl) (fun _ _ _ h => h) (Or.inl ⟨by rfl, fun w' hSw => ?_⟩) hHeld ?_
  · go_simp
  simp only [List.setIfInBounds_toArray, List.set_cons_zero, List.set_cons_succ]
  refine take_at (i := 4) (d := 13) (v := .int .u8 (m : Int)) rfl rfl (by kernel_rfl) (by kernel_rfl) (by kernel_rfl) (fun _ _ _ h => h) (Or.inl ⟨by rfl, fun w' hSw => ?_⟩) hHeld ?_
  · go_simp
  simp only [List.setIfInBounds_toArray, List.set_cons_zero, List.set_cons_succ]
  refine take_at (i := 5) (d := 14) (v := .int .i64 (m : Int)) rfl rfl (by kernel_rfl) (by kernel_rfl) (by kernel_rfl) (fun _ _ _ h => h) (Or.inl ⟨by rfl, fun w' hSw => ?_⟩) hHeld ?_
  · go_simp
  simp only [List.setIfInBounds_toArray, List.set_cons_zero, List.set_cons_succ]
  refine take_at (i := 6) (d := 15) (v := .string s) rfl rfl (by kernel_rfl) (by kernel_rfl) (by kernel_rfl) (fun _ _ _ h => h) (Or.inl ⟨by rfl, fun w' hSw => ?_⟩) hHeld ?_
  · go_simp
  simp only [List.setIfInBounds_toArray, List.set_cons_zero, List.set_cons_succ]
  refine take_at (i := 7) (d := 16) (v := .int .u8 (i : Int)) rfl rfl (by kernel_rfl) (by kernel_rfl) (by kernel_rfl) (fun _ _ _ h => h) (Or.inl ⟨by rfl, fun w' hSw => ?_⟩) hHeld ?_
  · go_simp
  simp only [List.setIfInBounds_toArray, List.set_cons_zero, List.set_cons_succ]
  refine take_at (i := 8) (d := 17) (v := .int .i64 (i : Int)) rfl rfl (by kernel_rfl) (by kernel_rfl) (by kernel_rfl) (fun _ _ _ h => h) (Or.inl ⟨by rfl, fun w' hSw => ?_⟩) hHeld ?_
  · go_simp
  simp only [List.setIfInBounds_toArray, List.set_cons_zero, List.set_cons_succ]
  refine take_at (i := 9) (d := 18) (v := .string s) rfl rfl (by kernel_rfl) (by kernel_rfl) (by kernel_rfl) (fun _ _ _ h => h) (Or.inl ⟨by rfl, fun w' hSw => ?_⟩) hHeld ?_
  · go_simp
  simp only [List.setIfInBounds_toArray, List.set_cons_zero, List.set_cons_succ]
  refine take_at (i := 10) (d := 19) (v := .string T) rfl rfl (by kernel_rfl) (by kernel_rfl) (by kernel_rfl) (fun _ _ _ h => h) (Or.inl ⟨by rfl, fun w' hSw => ?_⟩) hHeld ?_
  · go_simp
  simp only [List.setIfInBounds_toArray, List.set_cons_zero, List.set_cons_succ]
  refine take_at (i := 12) (d := 21) (v := .string s) rfl rfl (by kernel_rfl) (by kernel_rfl) (by kernel_rfl) (fun _ _ _ h => h) (Or.inl ⟨by rfl, fun w' hSw => ?_⟩) hHeld ?_
  · go_simp
  simp only [List.setIfInBounds_toArray, List.set_cons_zero, List.set_cons_succ]
  refine take_at (i := 13) (d := 22) (v := .string id) rfl rfl (by kernel_rfl) (by kernel_rfl) (by kernel_rfl) (fun _ _ _ h => h) (Or.inl ⟨by rfl, fun w' hSw => ?_⟩) hHeld ?_
  · go_simp
  simp only [List.setIfInBounds_toArray, List.set_cons_zero, List.set_cons_succ]
  refine take_at (i := 14) (d := 23) (v := .string s) rfl rfl (by kernel_rfl) (by kernel_rfl) (by kernel_rfl) (fun _ _ _ h => h) (Or.inl ⟨by rfl, fun w' hSw => ?_⟩) hHeld ?_
  · go_simp
  simp only [List.setIfInBounds_toArray, List.set_cons_zero, List.set_cons_succ]
  refine take_at (i := 15) (d := 24) (v := .string s) rfl rfl (by kernel_rfl) (by kernel_rfl) (by kernel_rfl) (fun _ _ _ h => h) (Or.inl ⟨by rfl, fun w' hSw => ?_⟩) hHeld ?_
  · go_simp
  simp only [List.setIfInBounds_toArray, List.set_cons_zero, List.set_cons_succ]
  refine take_at (i := 16) (d := 25) (v := .int .i64 (s.size : Int)) rfl rfl (by kernel_rfl) (by kernel_rfl) (by kernel_rfl) (fun _ _ _ h => h) (Or.inl ⟨by rfl, fun w' hSw => ?_⟩) hHeld ?_
  · go_simp
  simp only [List.setIfInBounds_toArray, List.set_cons_zero, List.set_cons_succ]
  refine take_at (i := 17) (d := 26) (v := .int .i64 ((s.size : Int) - 4)) rfl rfl (by kernel_rfl) (by kernel_rfl) (by kernel_rfl) (fun _ _ _ h => h) (Or.inl ⟨by rfl, fun w' hSw => ?_⟩) hHeld ?_
  · go_simp
  simp only [List.setIfInBounds_toArray, List.set_cons_zero, List.set_cons_succ]
  refine take_at (i := 18) (d := 27) (v := .string data) rfl rfl (by kernel_rfl) (by kernel_rfl) (by kernel_rfl) (fun _ _ _ h => h) (Or.inl ⟨by rfl, fun w' hSw => ?_⟩) hHeld ?_
  · go_simp
  simp only [List.setIfInBounds_toArray, List.set_cons_zero, List.set_cons_succ]
  refine wpAnyH_ready (rs := [11, 20]) (by kernel_rfl) (by simp) ?_
  refine AllReadyH.cons rfl (fun K hK => ?_) ?_
  · go_simp
    refine (HNM.out _ _ rfl).mono ?_
    rintro e wa ⟨rfl, hwa⟩
    subst wa
    go_simp
    refine hK.out _ _ trivial (fun hHeld => ?_)
    clear hK K
    try simp only [Act.put, List.setIfInBounds_toArray, List.set_cons_zero, List.set_cons_succ]
    refine take_at (i := 19) (d := 28) (v := .agg #[.int .i64 (k : Int), .int .i64 (m : Int), .int .i64 (i : Int), .int .i64 (long : Int), .string id, .string data]) rfl rfl (by kernel_rfl) (by kernel_rfl) (by kernel_rfl) (fun _ _ _ h => h) (Or.inl ⟨by rfl, fun w' hSw => ?_⟩) hHeld ?_
    · go_simp
    simp only [List.setIfInBounds_toArray, List.set_cons_zero, List.set_cons_succ]
    refine wpAnyH_ready (rs := [20]) (by kernel_rfl) (by simp) ?_
    refine AllReadyH.cons rfl (fun K hK => ?_) ?_
    · go_simp
      refine hK.out _ _ trivial (fun hHeld => ?_)
      clear hK K
      try simp only [Act.put, List.setIfInBounds_toArray, List.set_cons_zero, List.set_cons_succ]
      refine wpAnyH_ready (rs := [21]) (by kernel_rfl) (by simp) ?_
      refine AllReadyH.cons rfl (fun K hK => ?_) ?_
      · go_simp
        refine hK.out _ _ trivial (fun hHeld => ?_)
        clear hK K
        try simp only [Act.put, List.setIfInBounds_toArray, List.set_cons_zero, List.set_cons_succ]
        refine wpAnyH_done (by kernel_rfl) ?_ _
        refine NoPanic.normal ?_
        obtain ⟨V, hV⟩ : ∃ V, V = (W.alloc (.cells #[.int .i64 (k : Int), .int .i64 (m : Int), .int .i64 (i : Int), .int .i64 (long : Int), .string id, .string data] 29)).drew := ⟨_, rfl⟩
        have Y1 : SK 29 V W.heap.size k m i long id data := by rw [hV]; exact SK.new 29 W k m i long id data
        have X1 : SK 29 V w.heap.size 0 0 0 0 ⟨#[]⟩ ⟨#[]⟩ := by rw [hV]; exact HX.out.alloc _
        have HB1 : Hid (Below w.heap.size w V) := by rw [hV]; exact (HB.out.alloc HB.out.size _).drew
        have n1 : ¬ W.heap.size = w.heap.size := by omega
        have n2 : ¬ w.heap.size = W.heap.size := by omega
        rw [← hV]
        clear hV HB HX HNM v1 v2 v3 i4 i5 i6
        have c0 := Y1.cell0
        have c1 := Y1.cell1
        have c2 := Y1.cell2
        have c3 := Y1.cell3
        have c4 := Y1.cell4
        have c5 := Y1.cell5
        go_wp2_with fail
        refine (refCheck_ok _ _ _ _ id data _ HOK.out).mono ?_
        rintro e w2 ⟨rfl, hb2⟩
        have HX2 := hide (X1.below hb2 X1.lt)
        have HY2 := hide (Y1.below hb2 Y1.lt)
        have HB2 := hide (HB1.out.trans (hb2.mono HB1.out.size))
        clear hb2 X1 Y1 HB1 c0 c1 c2 c3 c4 c5
        have c0 := HY2.out.cell0
        have c1 := HY2.out.cell1
        have c2 := HY2.out.cell2
        have c3 := HY2.out.cell3
        have c4 := HY2.out.cell4
        have c5 := HY2.out.cell5
        go_wp2_with fail
        refine (refText_any k m i long id data _ bk bm bi bl z1 z2).mono ?_
        rintro e w3 ⟨rfl, hb3⟩
        rw [HA.out]
        have Y3 := HY2.out.below hb3 HY2.out.lt
        have X3 := HX2.out.below hb3 HX2.out.lt
        have HB3 := hide (HB2.out.trans (hb3.mono HB2.out.size))
        clear hb3 HX2 HY2 HB2 c0 c1 c2 c3 c4 c5
        have c0 := Y3.cell0
        have c1 := Y3.cell1
        have c2 := Y3.cell2
        have c3 := Y3.cell3
        have c4 := Y3.cell4
        have c5 := Y3.cell5
        have z0 := X3.cell0
        have z1 := X3.cell1
        have z2 := X3.cell2
        have z3 := X3.cell3
        have z4 := X3.cell4
        have z5 := X3.cell5
        have y0 := X3.free 0
        have y1 := X3.free 1
        have y2 := X3.free 2
        have y3 := X3.free 3
        have y4 := X3.free 4
        have y5 := X3.free 5
        go_wp2
        have G := X3.put k m i long id data
        exact bodyPost_ret (v := .tuple #[.agg #[.int .i64 k, .int .i64 m, .int .i64 i, .int .i64 long, .string id, .string data], .int .i64 0]) (by simp [results, Try.results10, go_sem, G.cell0, G.cell1, G.cell2, G.cell3, G.cell4, G.cell5]) rfl ⟨k, m, i, long, id, data, rfl, HD.out, below_put6 HB3.out (Nat.le_refl _) _ _ _ _ _ _⟩
      exact AllReadyH.nil
    exact AllReadyH.nil
  refine AllReadyH.cons rfl (fun K hK => ?_) ?_
  · go_simp
    refine hK.out _ _ trivial (fun hHeld => ?_)
    clear hK K
    try simp only [Act.put, List.setIfInBounds_toArray, List.set_cons_zero, List.set_cons_succ]
    refine wpAnyH_ready (rs := [11]) (by kernel_rfl) (by simp) ?_
    refine AllReadyH.cons rfl (fun K hK => ?_) ?_
    · go_simp
      refine (HNM.out _ _ rfl).mono ?_
      rintro e wa ⟨rfl, hwa⟩
      subst wa
      go_simp
      refine hK.out _ _ trivial (fun hHeld => ?_)
      clear hK K
      try simp only [Act.put, List.setIfInBounds_toArray, List.set_cons_zero, List.set_cons_succ]
      refine take_at (i := 19) (d := 28) (v := .agg #[.int .i64 (k : Int), .int .i64 (m : Int), .int .i64 (i : Int), .int .i64 (long : Int), .string id, .string data]) rfl rfl (by kernel_rfl) (by kernel_rfl) (by kernel_rfl) (fun _ _ _ h => h) (Or.inl ⟨by rfl, fun w' hSw => ?_⟩) hHeld ?_
      · go_simp
      simp only [List.setIfInBounds_toArray, List.set_cons_zero, List.set_cons_succ]
      refine wpAnyH_ready (rs := [21]) (by kernel_rfl) (by simp) ?_
      refine AllReadyH.cons rfl (fun K hK => ?_) ?_
      · go_simp
        refine hK.out _ _ trivial (fun hHeld => ?_)
        clear hK K
        try simp only [Act.put, List.setIfInBounds_toArray, List.set_cons_zero, List.set_cons_succ]
        refine wpAnyH_done (by kernel_rfl) ?_ _
        refine NoPanic.normal ?_
        obtain ⟨V, hV⟩ : ∃ V, V = (W.alloc (.cells #[.int .i64 (k : Int), .int .i64 (m : Int), .int .i64 (i : Int), .int .i64 (long : Int), .string id, .string data] 29)).drew := ⟨_, rfl⟩
        have Y1 : SK 29 V W.heap.size k m i long id data := by rw [hV]; exact SK.new 29 W k m i long id data
        have X1 : SK 29 V w.heap.size 0 0 0 0 ⟨#[]⟩ ⟨#[]⟩ := by rw [hV]; exact HX.out.alloc _
        have HB1 : Hid (Below w.heap.size w V) := by rw [hV]; exact (HB.out.alloc HB.out.size _).drew
        have n1 : ¬ W.heap.size = w.heap.size := by omega
        have n2 : ¬ w.heap.size = W.heap.size := by omega
        rw [← hV]
        clear hV HB HX HNM v1 v2 v3 i4 i5 i6
        have c0 := Y1.cell0
        have c1 := Y1.cell1
        have c2 := Y1.cell2
        have c3 := Y1.cell3
        have c4 := Y1.cell4
        have c5 := Y1.cell5
        go_wp2_with fail
        refine (refCheck_ok _ _ _ _ id data _ HOK.out).mono ?_
        rintro e w2 ⟨rfl, hb2⟩
        have HX2 := hide (X1.below hb2 X1.lt)
        have HY2 := hide (Y1.below hb2 Y1.lt)
        have HB2 := hide (HB1.out.trans (hb2.mono HB1.out.size))
        clear hb2 X1 Y1 HB1 c0 c1 c2 c3 c4 c5
        have c0 := HY2.out.cell0
        have c1 := HY2.out.cell1
        have c2 := HY2.out.cell2
        have c3 := HY2.out.cell3
        have c4 := HY2.out.cell4
        have c5 := HY2.out.cell5
        go_wp2_with fail
        refine (refText_any k m i long id data _ bk bm bi bl z1 z2).mono ?_
        rintro e w3 ⟨rfl, hb3⟩
        rw [HA.out]
        have Y3 := HY2.out.below hb3 HY2.out.lt
        have X3 := HX2.out.below hb3 HX2.out.lt
        have HB3 := hide (HB2.out.trans (hb3.mono HB2.out.size))
        clear hb3 HX2 HY2 HB2 c0 c1 c2 c3 c4 c5
        have c0 := Y3.cell0
        have c1 := Y3.cell1
        have c2 := Y3.cell2
        have c3 := Y3.cell3
        have c4 := Y3.cell4
        have c5 := Y3.cell5
        have z0 := X3.cell0
        have z1 := X3.cell1
        have z2 := X3.cell2
        have z3 := X3.cell3
        have z4 := X3.cell4
        have z5 := X3.cell5
        have y0 := X3.free 0
        have y1 := X3.free 1
        have y2 := X3.free 2
        have y3 := X3.free 3
        have y4 := X3.free 4
        have y5 := X3.free 5
        go_wp2
        have G := X3.put k m i long id data
        exact bodyPost_ret (v := .tuple #[.agg #[.int .i64 k, .int .i64 m, .int .i64 i, .int .i64 long, .string id, .string data], .int .i64 0]) (by simp [results, Try.results10, go_sem, G.cell0, G.cell1, G.cell2, G.cell3, G.cell4, G.cell5]) rfl ⟨k, m, i, long, id, data, rfl, HD.out, below_put6 HB3.out (Nat.le_refl _) _ _ _ _ _ _⟩
      exact AllReadyH.nil
    exact AllReadyH.nil
  exact AllReadyH.nil

set_option maxRecDepth 100000 in
set_option maxHeartbeats 1600000 in
theorem refDecode_bad (s : ByteArray) (w : World) (hs : s.size ≤ 1000000) (h : ¬ decOK s.data.toList) :
    Calls Try.prog 10 #[.string s] w fun e w' => e = .returned (.tuple #[.agg #[.int .i64 0, .int .i64 0, .int .i64 0, .int .i64 0, .string ⟨#[]⟩, .string ⟨#[]⟩], .int .i64 60]) ∧ Below w.heap.size w w' := by
  have HO := hide h
  have X := SK.new 29 w 0 0 0 0 ⟨#[]⟩ ⟨#[]⟩
  obtain ⟨W, hW⟩ : ∃ W, W = w.alloc (.cells #[.int .i64 0, .int .i64 0, .int .i64 0, .int .i64 0, .string ⟨#[]⟩, .string ⟨#[]⟩] 29) := ⟨_, rfl⟩
  have HB : Hid (Below w.heap.size w W) := by rw [hW]; exact below_alloc (Below.refl _ _) _
  rw [← hW] at X
  have HW := hide hW
  have HX := hide X
  have hl := X.lt
  by_cases h47 : 47 ≤ s.size
  rotate_left
  · have q2 : (s.size : Int) < 47 := by omega
    have z0 := X.cell0
    have z1 := X.cell1
    have z2 := X.cell2
    have z3 := X.cell3
    have z4 := X.cell4
    have z5 := X.cell5
    have y0 := X.free 0
    have y1 := X.free 1
    have y2 := X.free 2
    have y3 := X.free 3
    have y4 := X.free 4
    have y5 := X.free 5
    clear hW h HO
    go_enter Try.func10, Try.ntmps10
    go_upto_region 1 with fail
    rw [← HW.out]
    clear HW
    go_wp2
    have G := X.put 0 0 0 0 ⟨#[]⟩ ⟨#[]⟩
    exact bodyPost_ret (v := .tuple #[.agg #[.int .i64 0, .int .i64 0, .int .i64 0, .int .i64 0, .string ⟨#[]⟩, .string ⟨#[]⟩], .int .i64 60]) (by simp [results, Try.results10, go_sem, G.cell0, G.cell1, G.cell2, G.cell3, G.cell4, G.cell5]) rfl ⟨rfl, below_put6 HB.out (Nat.le_refl _) _ _ _ _ _ _⟩
  have q1 : (47 : Int) ≤ s.size := by omega
  have q2 : ¬ ((s.size : Int) < 47) := by omega
  have i4 : ∀ w : World, (Instr.index 9 (.string s) (.int .i64 4)).run Try.prog w = .ok (.int .u8 ((s.data.toList.getD 4 0).toNat : Int)) w := fun w => idx_at (j := 4) (by omega) w
  have i5 : ∀ w : World, (Instr.index 9 (.string s) (.int .i64 5)).run Try.prog w = .ok (.int .u8 ((s.data.toList.getD 5 0).toNat : Int)) w := fun w => idx_at (j := 5) (by omega) w
  have i6 : ∀ w : World, (Instr.index 9 (.string s) (.int .i64 6)).run Try.prog w = .ok (.int .u8 ((s.data.toList.getD 6 0).toNat : Int)) w := fun w => idx_at (j := 6) (by omega) w
  have v1 : ∀ w : World, (Instr.slice 9 (.string s) (some (.int .i64 7)) (some (.int .i64 11)) none).run Try.prog w = .ok (.string (s.extract 7 11)) w := fun w => sl_at (a := 7) (b := 11) (by decide) (by omega) w
  have v2 : ∀ w : World, (Instr.slice 9 (.string s) (some (.int .i64 11)) (some (.int .i64 43)) none).run Try.prog w = .ok (.string (s.extract 11 43)) w := fun w => sl_at (a := 11) (b := 43) (by decide) (by omega) w
  have v3 : ∀ w : World, (Instr.slice 9 (.string s) (some (.int .i64 43)) (some (.int .i64 ((s.size : Int) - 4))) none).run Try.prog w = .ok (.string (s.extract 43 (s.size - 4))) w := fun w => by
    have := sl_at (a := 43) (b := s.size - 4) (s := s) (by omega) (by omega) w
    rw [show ((s.size - 4 : Nat) : Int) = (s.size : Int) - 4 by omega] at this
    exact this
  have q3 : IntKind.i64.wrap ((s.size : Int) - 4) = (s.size : Int) - 4 := by rw [IntKind.wrap_i64]; omega
  have HNM : Hid (∀ (v : Value) (w' : World), v = .string (s.extract 7 11) → Calls Try.prog 19 #[v] w' fun e w'' => e = .returned (.int .i64 ((Nm.numOf (s.extract 7 11).data.toList : Nat) : Int)) ∧ w'' = w') := fun v w' hv => by
    subst hv
    exact refNum_any _ w' (by simp; omega)
  have hD : (⟨(s.data.toList.getD 4 0).toNat, (s.data.toList.getD 5 0).toNat, (s.data.toList.getD 6 0).toNat, Nm.numOf (s.extract 7 11).data.toList, s.extract 11 43, s.extract 43 (s.size - 4)⟩ : SX) = decX s.data.toList := by
    rw [decX, num_four s (p := 7) (by omega), ext_back, ext_back, bsize, show 43 - 11 = 32 from rfl, show s.size - 4 - 43 = s.size - 47 by omega]
  have bk := (s.data.toList.getD 4 0).toNat_lt
  have bm := (s.data.toList.getD 5 0).toNat_lt
  have bi := (s.data.toList.getD 6 0).toNat_lt
  have bl : Nm.numOf (s.extract 7 11).data.toList < 4294967296 := by
    have := Nm.numOf_lt (s.extract 7 11).data.toList
    rw [show (s.extract 7 11).data.toList.length = 4 by rw [bsize]; simp; omega] at this
    exact this
  have z1 : (s.extract 11 43).size ≤ 1000000 := by simp; omega
  have z2 : (s.extract 43 (s.size - 4)).size ≤ 1000000 := by simp; omega
  generalize (s.data.toList.getD 4 0).toNat = k at *
  generalize (s.data.toList.getD 5 0).toNat = m at *
  generalize (s.data.toList.getD 6 0).toNat = i at *
  generalize Nm.numOf (s.extract 7 11).data.toList = long at *
  generalize s.extract 7 11 = T at *
  generalize s.extract 11 43 = id at *
  generalize s.extract 43 (s.size - 4) = data at *
  have e1 : IntKind.i64.wrap (k : Int) = k := by rw [IntKind.wrap_i64]; omega
  have e2 : IntKind.i64.wrap (m : Int) = m := by rw [IntKind.wrap_i64]; omega
  have e3 : IntKind.i64.wrap (i : Int) = i := by rw [IntKind.wrap_i64]; omega
  have HD := hide hD
  clear X hW h hD
  go_enter Try.func10, Try.ntmps10
  go_upto_region 3 with fail
  rw [← HW.out]
  refine wp_region_noPanic ?_
  refine wp_region_held_drew (S := fun _ => True) (by kernel_rfl) trivial (fun hHeld => ?_)
  refine take_at (i := 0) (d := 9) (v := .string s) rfl rfl (by kernel_rfl) (by kernel_rfl) (by kernel_rfl) (fun _ _ _ h => h) (Or.inl ⟨by rfl, fun w' hSw => ?_⟩) hHeld ?_
  · go_simp
  simp only [List.setIfInBounds_toArray, List.set_cons_zero, List.set_cons_succ]
  refine take_at (i := 1) (d := 10) (v := .int .u8 (k : Int)) rfl rfl (by kernel_rfl) (by kernel_rfl) (by kernel_rfl) (fun _ _ _ h => h) (Or.inl ⟨by rfl, fun w' hSw => ?_⟩) hHeld ?_
  · go_simp
  simp only [List.setIfInBounds_toArray, List.set_cons_zero, List.set_cons_succ]
  refine take_at (i := 2) (d := 11) (v := .int .i64 (k : Int)) rfl rfl (by kernel_rfl) (by kernel_rfl) (by kernel_rfl) (fun _ _ _ h => h) (Or.inl ⟨by rfl, fun w' hSw => ?_⟩) hHeld ?_
  · go_simp
  simp only [List.setIfInBounds_toArray, List.set_cons_zero, List.set_cons_succ]
  refine take_at (i := 3) (d := 12) (v := .string s) rfl rfl (by kernel_rfl) (by kernel_rfl) (by kernel_rfl) (fun _ _ _ h => h) (Or.inl ⟨by rfl, fun w' hSw => ?_⟩) hHeld ?_
  · go_simp
  simp only [List.setIfInBounds_toArray, List.set_cons_zero, List.set_cons_succ]
  refine take_at (i := 4) (d := 13) (v := .int .u8 (m : Int)) rfl rfl (by kernel_rfl) (by kernel_rfl) (by kernel_rfl) (fun _ _ _ h => h) (Or.inl ⟨by rfl, fun w' hSw => ?_⟩) hHeld ?_
  · go_simp
  simp only [List.setIfInBounds_toArray, List.set_cons_zero, List.set_cons_succ]
  refine take_at (i := 5) (d := 14) (v := .int .i64 (m : Int)) rfl rfl (by kernel_rfl) (by kernel_rfl) (by kernel_rfl) (fun _ _ _ h => h) (Or.inl ⟨by rfl, fun w' hSw => ?_⟩) hHeld ?_
  · go_simp
  simp only [List.setIfInBounds_toArray, List.set_cons_zero, List.set_cons_succ]
  refine take_at (i := 6) (d := 15) (v := .string s) rfl rfl (by kernel_rfl) (by kernel_rfl) (by kernel_rfl) (fun _ _ _ h => h) (Or.inl ⟨by rfl, fun w' hSw => ?_⟩) hHeld ?_
  · go_simp
  simp only [List.setIfInBounds_toArray, List.set_cons_zero, List.set_cons_succ]
  refine take_at (i := 7) (d := 16) (v := .int .u8 (i : Int)) rfl rfl (by kernel_rfl) (by kernel_rfl) (by kernel_rfl) (fun _ _ _ h => h) (Or.inl ⟨by rfl, fun w' hSw => ?_⟩) hHeld ?_
  · go_simp
  simp only [List.setIfInBounds_toArray, List.set_cons_zero, List.set_cons_succ]
  refine take_at (i := 8) (d := 17) (v := .int .i64 (i : Int)) rfl rfl (by kernel_rfl) (by kernel_rfl) (by kernel_rfl) (fun _ _ _ h => h) (Or.inl ⟨by rfl, fun w' hSw => ?_⟩) hHeld ?_
  · go_simp
  simp only [List.setIfInBounds_toArray, List.set_cons_zero, List.set_cons_succ]
  refine take_at (i := 9) (d := 18) (v := .string s) rfl rfl (by kernel_rfl) (by kernel_rfl) (by kernel_rfl) (fun _ _ _ h => h) (Or.inl ⟨by rfl, fun w' hSw => ?_⟩) hHeld ?_
  · go_simp
  simp only [List.setIfInBounds_toArray, List.set_cons_zero, List.set_cons_succ]
  refine take_at (i := 10) (d := 19) (v := .string T) rfl rfl (by kernel_rfl) (by kernel_rfl) (by kernel_rfl) (fun _ _ _ h => h) (Or.inl ⟨by rfl, fun w' hSw => ?_⟩) hHeld ?_
  · go_simp
  simp only [List.setIfInBounds_toArray, List.set_cons_zero, List.set_cons_succ]
  refine take_at (i := 12) (d := 21) (v := .string s) rfl rfl (by kernel_rfl) (by kernel_rfl) (by kernel_rfl) (fun _ _ _ h => h) (Or.inl ⟨by rfl, fun w' hSw => ?_⟩) hHeld ?_
  · go_simp
  simp only [List.setIfInBounds_toArray, List.set_cons_zero, List.set_cons_succ]
  refine take_at (i := 13) (d := 22) (v := .string id) rfl rfl (by kernel_rfl) (by kernel_rfl) (by kernel_rfl) (fun _ _ _ h => h) (Or.inl ⟨by rfl, fun w' hSw => ?_⟩) hHeld ?_
  · go_simp
  simp only [List.setIfInBounds_toArray, List.set_cons_zero, List.set_cons_succ]
  refine take_at (i := 14) (d := 23) (v := .string s) rfl rfl (by kernel_rfl) (by kernel_rfl) (by kernel_rfl) (fun _ _ _ h => h) (Or.inl ⟨by rfl, fun w' hSw => ?_⟩) hHeld ?_
  · go_simp
  simp only [List.setIfInBounds_toArray, List.set_cons_zero, List.set_cons_succ]
  refine take_at (i := 15) (d := 24) (v := .string s) rfl rfl (by kernel_rfl) (by kernel_rfl) (by kernel_rfl) (fun _ _ _ h => h) (Or.inl ⟨by rfl, fun w' hSw => ?_⟩) hHeld ?_
  · go_simp
  simp only [List.setIfInBounds_toArray, List.set_cons_zero, List.set_cons_succ]
  refine take_at (i := 16) (d := 25) (v := .int .i64 (s.size : Int)) rfl rfl (by kernel_rfl) (by kernel_rfl) (by kernel_rfl) (fun _ _ _ h => h) (Or.inl ⟨by rfl, fun w' hSw => ?_⟩) hHeld ?_
  · go_simp
  simp only [List.setIfInBounds_toArray, List.set_cons_zero, List.set_cons_succ]
  refine take_at (i := 17) (d := 26) (v := .int .i64 ((s.size : Int) - 4)) rfl rfl (by kernel_rfl) (by kernel_rfl) (by kernel_rfl) (fun _ _ _ h => h) (Or.inl ⟨by rfl, fun w' hSw => ?_⟩) hHeld ?_
  · go_simp
  simp only [List.setIfInBounds_toArray, List.set_cons_zero, List.set_cons_succ]
  refine take_at (i := 18) (d := 27) (v := .string data) rfl rfl (by kernel_rfl) (by kernel_rfl) (by kernel_rfl) (fun _ _ _ h => h) (Or.inl ⟨by rfl, fun w' hSw => ?_⟩) hHeld ?_
  · go_simp
  simp only [List.setIfInBounds_toArray, List.set_cons_zero, List.set_cons_succ]
  refine wpAnyH_ready (rs := [11, 20]) (by kernel_rfl) (by simp) ?_
  refine AllReadyH.cons rfl (fun K hK => ?_) ?_
  · go_simp
    refine (HNM.out _ _ rfl).mono ?_
    rintro e wa ⟨rfl, hwa⟩
    subst wa
    go_simp
    refine hK.out _ _ trivial (fun hHeld => ?_)
    clear hK K
    try simp only [Act.put, List.setIfInBounds_toArray, List.set_cons_zero, List.set_cons_succ]
    refine take_at (i := 19) (d := 28) (v := .agg #[.int .i64 (k : Int), .int .i64 (m : Int), .int .i64 (i : Int), .int .i64 (long : Int), .string id, .string data]) rfl rfl (by kernel_rfl) (by kernel_rfl) (by kernel_rfl) (fun _ _ _ h => h) (Or.inl ⟨by rfl, fun w' hSw => ?_⟩) hHeld ?_
    · go_simp
    simp only [List.setIfInBounds_toArray, List.set_cons_zero, List.set_cons_succ]
    refine wpAnyH_ready (rs := [20]) (by kernel_rfl) (by simp) ?_
    refine AllReadyH.cons rfl (fun K hK => ?_) ?_
    · go_simp
      refine hK.out _ _ trivial (fun hHeld => ?_)
      clear hK K
      try simp only [Act.put, List.setIfInBounds_toArray, List.set_cons_zero, List.set_cons_succ]
      refine wpAnyH_ready (rs := [21]) (by kernel_rfl) (by simp) ?_
      refine AllReadyH.cons rfl (fun K hK => ?_) ?_
      · go_simp
        refine hK.out _ _ trivial (fun hHeld => ?_)
        clear hK K
        try simp only [Act.put, List.setIfInBounds_toArray, List.set_cons_zero, List.set_cons_succ]
        refine wpAnyH_done (by kernel_rfl) ?_ _
        refine NoPanic.normal ?_
        obtain ⟨V, hV⟩ : ∃ V, V = (W.alloc (.cells #[.int .i64 (k : Int), .int .i64 (m : Int), .int .i64 (i : Int), .int .i64 (long : Int), .string id, .string data] 29)).drew := ⟨_, rfl⟩
        have Y1 : SK 29 V W.heap.size k m i long id data := by rw [hV]; exact SK.new 29 W k m i long id data
        have X1 : SK 29 V w.heap.size 0 0 0 0 ⟨#[]⟩ ⟨#[]⟩ := by rw [hV]; exact HX.out.alloc _
        have HB1 : Hid (Below w.heap.size w V) := by rw [hV]; exact (HB.out.alloc HB.out.size _).drew
        have n1 : ¬ W.heap.size = w.heap.size := by omega
        have n2 : ¬ w.heap.size = W.heap.size := by omega
        rw [← hV]
        clear hV HB HX HNM v1 v2 v3 i4 i5 i6
        have c0 := Y1.cell0
        have c1 := Y1.cell1
        have c2 := Y1.cell2
        have c3 := Y1.cell3
        have c4 := Y1.cell4
        have c5 := Y1.cell5
        by_cases hok : okS ⟨k, m, i, long, id, data⟩
        · have HOK := hide hok
          have hne : ¬ bs (fullL ⟨k, m, i, long, id, data⟩) = s := fun e => by
            have e2 : fullL ⟨k, m, i, long, id, data⟩ = s.data.toList := by rw [← e, bs_toList]
            have hD := HD.out
            rw [hD] at e2 hok
            exact HO.out ⟨by rw [bsize]; exact h47, hok, e2⟩
          clear hok HO HD
          go_wp2_with fail
          refine (refCheck_ok _ _ _ _ id data _ HOK.out).mono ?_
          rintro e w2 ⟨rfl, hb2⟩
          have HX2 := hide (X1.below hb2 X1.lt)
          have HY2 := hide (Y1.below hb2 Y1.lt)
          have HB2 := hide (HB1.out.trans (hb2.mono HB1.out.size))
          clear hb2 X1 Y1 HB1 c0 c1 c2 c3 c4 c5
          have c0 := HY2.out.cell0
          have c1 := HY2.out.cell1
          have c2 := HY2.out.cell2
          have c3 := HY2.out.cell3
          have c4 := HY2.out.cell4
          have c5 := HY2.out.cell5
          go_wp2_with fail
          refine (refText_any k m i long id data _ bk bm bi bl z1 z2).mono ?_
          rintro e w3 ⟨rfl, hb3⟩
          obtain ⟨u1, u2⟩ := unlike_tests hne
          generalize bs (fullL ⟨k, m, i, long, id, data⟩) = A at *
          have X3 := HX2.out.below hb3 HX2.out.lt
          have HB3 := hide (HB2.out.trans (hb3.mono HB2.out.size))
          clear hb3 HX2 HY2 HB2 c0 c1 c2 c3 c4 c5 hne
          have z0 := X3.cell0
          have z1 := X3.cell1
          have z2 := X3.cell2
          have z3 := X3.cell3
          have z4 := X3.cell4
          have z5 := X3.cell5
          have y0 := X3.free 0
          have y1 := X3.free 1
          have y2 := X3.free 2
          have y3 := X3.free 3
          have y4 := X3.free 4
          have y5 := X3.free 5
          go_wp2
          have G := X3.put 0 0 0 0 ⟨#[]⟩ ⟨#[]⟩
          exact bodyPost_ret (v := .tuple #[.agg #[.int .i64 0, .int .i64 0, .int .i64 0, .int .i64 0, .string ⟨#[]⟩, .string ⟨#[]⟩], .int .i64 60]) (by simp [results, Try.results10, go_sem, G.cell0, G.cell1, G.cell2, G.cell3, G.cell4, G.cell5]) rfl ⟨rfl, below_put6 HB3.out (Nat.le_refl _) _ _ _ _ _ _⟩
        · have HOK := hide hok
          clear hok HO HD
          go_wp2_with fail
          refine (refCheck_bad _ _ _ _ id data _ HOK.out).mono ?_
          rintro e w2 ⟨rfl, hb2⟩
          have X3 := X1.below hb2 X1.lt
          have HB3 := hide (HB1.out.trans (hb2.mono HB1.out.size))
          clear hb2 X1 Y1 HB1 c0 c1 c2 c3 c4 c5
          have z0 := X3.cell0
          have z1 := X3.cell1
          have z2 := X3.cell2
          have z3 := X3.cell3
          have z4 := X3.cell4
          have z5 := X3.cell5
          have y0 := X3.free 0
          have y1 := X3.free 1
          have y2 := X3.free 2
          have y3 := X3.free 3
          have y4 := X3.free 4
          have y5 := X3.free 5
          go_wp2
          have G := X3.put 0 0 0 0 ⟨#[]⟩ ⟨#[]⟩
          exact bodyPost_ret (v := .tuple #[.agg #[.int .i64 0, .int .i64 0, .int .i64 0, .int .i64 0, .string ⟨#[]⟩, .string ⟨#[]⟩], .int .i64 60]) (by simp [results, Try.results10, go_sem, G.cell0, G.cell1, G.cell2, G.cell3, G.cell4, G.cell5]) rfl ⟨rfl, below_put6 HB3.out (Nat.le_refl _) _ _ _ _ _ _⟩
      exact AllReadyH.nil
    exact AllReadyH.nil
  refine AllReadyH.cons rfl (fun K hK => ?_) ?_
  · go_simp
    refine hK.out _ _ trivial (fun hHeld => ?_)
    clear hK K
    try simp only [Act.put, List.setIfInBounds_toArray, List.set_cons_zero, List.set_cons_succ]
    refine wpAnyH_ready (rs := [11]) (by kernel_rfl) (by simp) ?_
    refine AllReadyH.cons rfl (fun K hK => ?_) ?_
    · go_simp
      refine (HNM.out _ _ rfl).mono ?_
      rintro e wa ⟨rfl, hwa⟩
      subst wa
      go_simp
      refine hK.out _ _ trivial (fun hHeld => ?_)
      clear hK K
      try simp only [Act.put, List.setIfInBounds_toArray, List.set_cons_zero, List.set_cons_succ]
      refine take_at (i := 19) (d := 28) (v := .agg #[.int .i64 (k : Int), .int .i64 (m : Int), .int .i64 (i : Int), .int .i64 (long : Int), .string id, .string data]) rfl rfl (by kernel_rfl) (by kernel_rfl) (by kernel_rfl) (fun _ _ _ h => h) (Or.inl ⟨by rfl, fun w' hSw => ?_⟩) hHeld ?_
      · go_simp
      simp only [List.setIfInBounds_toArray, List.set_cons_zero, List.set_cons_succ]
      refine wpAnyH_ready (rs := [21]) (by kernel_rfl) (by simp) ?_
      refine AllReadyH.cons rfl (fun K hK => ?_) ?_
      · go_simp
        refine hK.out _ _ trivial (fun hHeld => ?_)
        clear hK K
        try simp only [Act.put, List.setIfInBounds_toArray, List.set_cons_zero, List.set_cons_succ]
        refine wpAnyH_done (by kernel_rfl) ?_ _
        refine NoPanic.normal ?_
        obtain ⟨V, hV⟩ : ∃ V, V = (W.alloc (.cells #[.int .i64 (k : Int), .int .i64 (m : Int), .int .i64 (i : Int), .int .i64 (long : Int), .string id, .string data] 29)).drew := ⟨_, rfl⟩
        have Y1 : SK 29 V W.heap.size k m i long id data := by rw [hV]; exact SK.new 29 W k m i long id data
        have X1 : SK 29 V w.heap.size 0 0 0 0 ⟨#[]⟩ ⟨#[]⟩ := by rw [hV]; exact HX.out.alloc _
        have HB1 : Hid (Below w.heap.size w V) := by rw [hV]; exact (HB.out.alloc HB.out.size _).drew
        have n1 : ¬ W.heap.size = w.heap.size := by omega
        have n2 : ¬ w.heap.size = W.heap.size := by omega
        rw [← hV]
        clear hV HB HX HNM v1 v2 v3 i4 i5 i6
        have c0 := Y1.cell0
        have c1 := Y1.cell1
        have c2 := Y1.cell2
        have c3 := Y1.cell3
        have c4 := Y1.cell4
        have c5 := Y1.cell5
        by_cases hok : okS ⟨k, m, i, long, id, data⟩
        · have HOK := hide hok
          have hne : ¬ bs (fullL ⟨k, m, i, long, id, data⟩) = s := fun e => by
            have e2 : fullL ⟨k, m, i, long, id, data⟩ = s.data.toList := by rw [← e, bs_toList]
            have hD := HD.out
            rw [hD] at e2 hok
            exact HO.out ⟨by rw [bsize]; exact h47, hok, e2⟩
          clear hok HO HD
          go_wp2_with fail
          refine (refCheck_ok _ _ _ _ id data _ HOK.out).mono ?_
          rintro e w2 ⟨rfl, hb2⟩
          have HX2 := hide (X1.below hb2 X1.lt)
          have HY2 := hide (Y1.below hb2 Y1.lt)
          have HB2 := hide (HB1.out.trans (hb2.mono HB1.out.size))
          clear hb2 X1 Y1 HB1 c0 c1 c2 c3 c4 c5
          have c0 := HY2.out.cell0
          have c1 := HY2.out.cell1
          have c2 := HY2.out.cell2
          have c3 := HY2.out.cell3
          have c4 := HY2.out.cell4
          have c5 := HY2.out.cell5
          go_wp2_with fail
          refine (refText_any k m i long id data _ bk bm bi bl z1 z2).mono ?_
          rintro e w3 ⟨rfl, hb3⟩
          obtain ⟨u1, u2⟩ := unlike_tests hne
          generalize bs (fullL ⟨k, m, i, long, id, data⟩) = A at *
          have X3 := HX2.out.below hb3 HX2.out.lt
          have HB3 := hide (HB2.out.trans (hb3.mono HB2.out.size))
          clear hb3 HX2 HY2 HB2 c0 c1 c2 c3 c4 c5 hne
          have z0 := X3.cell0
          have z1 := X3.cell1
          have z2 := X3.cell2
          have z3 := X3.cell3
          have z4 := X3.cell4
          have z5 := X3.cell5
          have y0 := X3.free 0
          have y1 := X3.free 1
          have y2 := X3.free 2
          have y3 := X3.free 3
          have y4 := X3.free 4
          have y5 := X3.free 5
          go_wp2
          have G := X3.put 0 0 0 0 ⟨#[]⟩ ⟨#[]⟩
          exact bodyPost_ret (v := .tuple #[.agg #[.int .i64 0, .int .i64 0, .int .i64 0, .int .i64 0, .string ⟨#[]⟩, .string ⟨#[]⟩], .int .i64 60]) (by simp [results, Try.results10, go_sem, G.cell0, G.cell1, G.cell2, G.cell3, G.cell4, G.cell5]) rfl ⟨rfl, below_put6 HB3.out (Nat.le_refl _) _ _ _ _ _ _⟩
        · have HOK := hide hok
          clear hok HO HD
          go_wp2_with fail
          refine (refCheck_bad _ _ _ _ id data _ HOK.out).mono ?_
          rintro e w2 ⟨rfl, hb2⟩
          have X3 := X1.below hb2 X1.lt
          have HB3 := hide (HB1.out.trans (hb2.mono HB1.out.size))
          clear hb2 X1 Y1 HB1 c0 c1 c2 c3 c4 c5
          have z0 := X3.cell0
          have z1 := X3.cell1
          have z2 := X3.cell2
          have z3 := X3.cell3
          have z4 := X3.cell4
          have z5 := X3.cell5
          have y0 := X3.free 0
          have y1 := X3.free 1
          have y2 := X3.free 2
          have y3 := X3.free 3
          have y4 := X3.free 4
          have y5 := X3.free 5
          go_wp2
          have G := X3.put 0 0 0 0 ⟨#[]⟩ ⟨#[]⟩
          exact bodyPost_ret (v := .tuple #[.agg #[.int .i64 0, .int .i64 0, .int .i64 0, .int .i64 0, .string ⟨#[]⟩, .string ⟨#[]⟩], .int .i64 60]) (by simp [results, Try.results10, go_sem, G.cell0, G.cell1, G.cell2, G.cell3, G.cell4, G.cell5]) rfl ⟨rfl, below_put6 HB3.out (Nat.le_refl _) _ _ _ _ _ _⟩
      exact AllReadyH.nil
    exact AllReadyH.nil
  exact AllReadyH.nil
end Go.Proofs.Ytklaeocnimkboaa

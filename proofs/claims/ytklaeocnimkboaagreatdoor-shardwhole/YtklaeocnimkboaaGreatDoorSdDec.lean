/-
  SdDec: texts of earlier layers, laid over this program.
-/
import Derived.Test.YtklaeocnimkboaaGreatDoorSdRead
namespace Go.Proofs.YtklaeocnimkboaaGreatDoor
open Go.RowKit Go.Lib

theorem okS_nat {k m i long : Int} {id data : ByteArray} (h : okS ⟨k, m, i, long, id, data⟩) : ∃ K M I L : Nat, k = K ∧ m = M ∧ i = I ∧ long = L ∧ K < 256 ∧ M < 256 ∧ I < 256 ∧ L ≤ 65536 ∧ id.size = 32 ∧ data.size ≤ 65536 := by
  obtain ⟨⟨k1, m0, km⟩, ⟨i0, i1⟩, ⟨l0, l1⟩, hid, hd⟩ := h
  simp only at k1 m0 km i0 i1 l0 l1 hid hd
  refine ⟨k.toNat, m.toNat, i.toNat, long.toNat, by omega, by omega, by omega, by omega, by omega, by omega, by omega, by omega, hid, ?_⟩
  rw [hd]
  exact Nat.le_trans (eachN_le (by omega)) (by omega)

theorem unlike_tests {A s : ByteArray} (h : ¬ A = s) : (¬ A.toList = s.toList) ∧ (A.toList == s.toList) = false := by
  have h2 : ¬ A.toList = s.toList := fun e => h (by
    rw [ByteArray.toList_eq, ByteArray.toList_eq] at e
    exact ByteArray.ext (Array.toList_inj.1 e))
  exact ⟨h2, by simpa using h2⟩

set_option maxRecDepth 100000 in
set_option maxHeartbeats 800000 in
theorem decode_ok (s : ByteArray) (w : World) (hs : s.size ≤ 1000000) (h : decOK s.data.toList) :
    Calls Tryz.prog 16 #[.string s] w fun e w' => ∃ (k m i long : Nat) (id data : ByteArray), e = .returned (.tuple #[.agg #[.int .i64 k, .int .i64 m, .int .i64 i, .int .i64 long, .string id, .string data], .int .i64 0]) ∧
      (⟨k, m, i, long, id, data⟩ : SX) = decX s.data.toList ∧ Below w.heap.size w w' := by
  have HO := hide h
  have X := SK.new 33 w 0 0 0 0 ⟨#[]⟩ ⟨#[]⟩
  obtain ⟨W, hW⟩ : ∃ W, W = w.alloc (.cells #[.int .i64 0, .int .i64 0, .int .i64 0, .int .i64 0, .string ⟨#[]⟩, .string ⟨#[]⟩] 33) := ⟨_, rfl⟩
  have HB : Hid (Below w.heap.size w W) := by rw [hW]; exact below_alloc (Below.refl _ _) _
  rw [← hW] at X
  have HW := hide hW
  have HX := hide X
  have hl := X.lt
  clear X hW h
  go_enter Tryz.func16, Tryz.ntmps16
  go_wp2_with fail
  rw [← HW.out]
  refine (sread_any s W hs).mono ?_
  rintro e w1 ⟨k, m, i, long, id, data, rfl, ⟨hk, hm, hi, hlo, hid, hda⟩, hdec, _, hb1⟩
  obtain ⟨hO1, hO2, hO3⟩ := HO.out
  have hdx := hdec (by rw [← bsize]; exact hO1)
  rw [← hdx] at hO2 hO3
  have hA : bs (fullL ⟨k, m, i, long, id, data⟩) = s := by rw [hO3, bs_of]
  have HDX := hide hdx
  have HOK := hide hO2
  have HA := hide hA
  have HX1 := hide ((HX.out.below hb1 hl).alloc (.cells #[.int .i64 (k : Int), .int .i64 (m : Int), .int .i64 (i : Int), .int .i64 (long : Int), .string id, .string data] 33))
  have HY1 := hide (SK.new 33 w1 k m i long id data)
  have HB1 := hide ((HB.out.trans (hb1.mono HB.out.size)).alloc (Nat.le_trans HB.out.size hb1.size) (.cells #[.int .i64 (k : Int), .int .i64 (m : Int), .int .i64 (i : Int), .int .i64 (long : Int), .string id, .string data] 33))
  have n1 : ¬ w1.heap.size = w.heap.size := by have := hb1.size; omega
  have n2 : ¬ w.heap.size = w1.heap.size := fun e => n1 e.symm
  obtain ⟨V, hV⟩ : ∃ V, V = w1.alloc (.cells #[.int .i64 (k : Int), .int .i64 (m : Int), .int .i64 (i : Int), .int .i64 (long : Int), .string id, .string data] 33) := ⟨_, rfl⟩
  rw [← hV] at HX1 HY1 HB1
  have HV := hide hV
  clear hV HX HB HW hb1 hdec hdx hO1 hO2 hO3 hA HO
  go_wp2_with fail
  rw [← HV.out]
  refine (written_any k m i long id data V hk hm hi hlo (by omega) (by omega)).mono ?_
  rintro e w2 ⟨rfl, hb2⟩
  rw [HA.out]
  have HX2 := hide (HX1.out.below hb2 HX1.out.lt)
  have HY2 := hide (HY1.out.below hb2 HY1.out.lt)
  have HB2 := hide (HB1.out.trans (hb2.mono HB1.out.size))
  have c0 := HY2.out.cell0
  have c1 := HY2.out.cell1
  have c2 := HY2.out.cell2
  have c3 := HY2.out.cell3
  have c4 := HY2.out.cell4
  have c5 := HY2.out.cell5
  clear hb2 HX1 HY1 HB1 HV
  go_wp2_with fail
  refine (check_ok _ _ _ _ id data _ HOK.out).mono ?_
  rintro e w3 ⟨rfl, hb3⟩
  clear c0 c1 c2 c3 c4 c5
  have Y3 := HY2.out.below hb3 HY2.out.lt
  have X3 := HX2.out.below hb3 HX2.out.lt
  have HB3 := hide (HB2.out.trans (hb3.mono HB2.out.size))
  have c0 := Y3.cell0
  have c1 := Y3.cell1
  have c2 := Y3.cell2
  have c3 := Y3.cell3
  have c4 := Y3.cell4
  have c5 := Y3.cell5
  have z0 := X3.cell0
  have z1 := X3.cell1
  have z2 := X3.cell2
  have z3 := X3.cell3
  have z4 := X3.cell4
  have z5 := X3.cell5
  have y0 := X3.free 0
  have y1 := X3.free 1
  have y2 := X3.free 2
  have y3 := X3.free 3
  have y4 := X3.free 4
  have y5 := X3.free 5
  clear hb3 HX2 HY2 HB2
  go_wp2
  have G := X3.put k m i long id data
  exact bodyPost_ret (v := .tuple #[.agg #[.int .i64 k, .int .i64 m, .int .i64 i, .int .i64 long, .string id, .string data], .int .i64 0]) (by simp [results, Tryz.results16, go_sem, G.cell0, G.cell1, G.cell2, G.cell3, G.cell4, G.cell5]) rfl
    ⟨k, m, i, long, id, data, rfl, HDX.out, below_put6 HB3.out (Nat.le_refl _) _ _ _ _ _ _⟩

set_option maxRecDepth 100000 in
set_option maxHeartbeats 800000 in
theorem decode_bad (s : ByteArray) (w : World) (hs : s.size ≤ 1000000) (h : ¬ decOK s.data.toList) :
    Calls Tryz.prog 16 #[.string s] w fun e w' => e = .returned (.tuple #[.agg #[.int .i64 0, .int .i64 0, .int .i64 0, .int .i64 0, .string ⟨#[]⟩, .string ⟨#[]⟩], .int .i64 60]) ∧ Below w.heap.size w w' := by
  have HO := hide h
  have X := SK.new 33 w 0 0 0 0 ⟨#[]⟩ ⟨#[]⟩
  obtain ⟨W, hW⟩ : ∃ W, W = w.alloc (.cells #[.int .i64 0, .int .i64 0, .int .i64 0, .int .i64 0, .string ⟨#[]⟩, .string ⟨#[]⟩] 33) := ⟨_, rfl⟩
  have HB : Hid (Below w.heap.size w W) := by rw [hW]; exact below_alloc (Below.refl _ _) _
  rw [← hW] at X
  have HW := hide hW
  have HX := hide X
  have hl := X.lt
  clear X hW h
  go_enter Tryz.func16, Tryz.ntmps16
  go_wp2_with fail
  rw [← HW.out]
  refine (sread_any s W hs).mono ?_
  rintro e w1 ⟨k, m, i, long, id, data, rfl, ⟨hk, hm, hi, hlo, hid, hda⟩, hdec, hno, hb1⟩
  have HNK : Hid (bs (fullL ⟨k, m, i, long, id, data⟩) = s → ¬ okS ⟨k, m, i, long, id, data⟩) := fun hA hok => by
    have hA2 : fullL ⟨k, m, i, long, id, data⟩ = s.data.toList := by rw [← hA, bs_toList]
    by_cases h47 : 47 ≤ s.size
    · have hdx := hdec h47
      refine HO.out ⟨by rw [bsize]; exact h47, by rw [← hdx]; exact hok, by rw [← hdx]; exact hA2⟩
    · have hz : 15 + id.size + data.size = s.size := by
        rw [← bsize s, ← hA2, fullL_length]
      rcases hno (by omega) with h1 | h1
      · exact h1 hok.2.2.2.1
      · exact h1 hz
  have HX1 := hide ((HX.out.below hb1 hl).alloc (.cells #[.int .i64 (k : Int), .int .i64 (m : Int), .int .i64 (i : Int), .int .i64 (long : Int), .string id, .string data] 33))
  have HY1 := hide (SK.new 33 w1 k m i long id data)
  have HB1 := hide ((HB.out.trans (hb1.mono HB.out.size)).alloc (Nat.le_trans HB.out.size hb1.size) (.cells #[.int .i64 (k : Int), .int .i64 (m : Int), .int .i64 (i : Int), .int .i64 (long : Int), .string id, .string data] 33))
  obtain ⟨V, hV⟩ : ∃ V, V = w1.alloc (.cells #[.int .i64 (k : Int), .int .i64 (m : Int), .int .i64 (i : Int), .int .i64 (long : Int), .string id, .string data] 33) := ⟨_, rfl⟩
  rw [← hV] at HX1 HY1 HB1
  have HV := hide hV
  clear hV HX HB HW hb1 hdec hno HO
  go_wp2_with fail
  rw [← HV.out]
  refine (written_any k m i long id data V hk hm hi hlo (by omega) (by omega)).mono ?_
  rintro e w2 ⟨rfl, hb2⟩
  have HX2 := hide (HX1.out.below hb2 HX1.out.lt)
  have HY2 := hide (HY1.out.below hb2 HY1.out.lt)
  have HB2 := hide (HB1.out.trans (hb2.mono HB1.out.size))
  obtain ⟨A, hA⟩ : ∃ A, A = bs (fullL ⟨k, m, i, long, id, data⟩) := ⟨_, rfl⟩
  rw [← hA] at HNK ⊢
  clear hb2 HX1 HY1 HB1 HV hA
  by_cases hAs : A = s
  · have HNO := hide (HNK.out hAs)
    subst hAs
    have c0 := HY2.out.cell0
    have c1 := HY2.out.cell1
    have c2 := HY2.out.cell2
    have c3 := HY2.out.cell3
    have c4 := HY2.out.cell4
    have c5 := HY2.out.cell5
    clear HNK
    go_wp2_with fail
    refine (check_bad _ _ _ _ id data _ (by omega) HNO.out).mono ?_
    rintro e w3 ⟨rfl, hb3⟩
    have X3 := HX2.out.below hb3 HX2.out.lt
    have HB3 := hide (HB2.out.trans (hb3.mono HB2.out.size))
    have z0 := X3.cell0
    have z1 := X3.cell1
    have z2 := X3.cell2
    have z3 := X3.cell3
    have z4 := X3.cell4
    have z5 := X3.cell5
    have y0 := X3.free 0
    have y1 := X3.free 1
    have y2 := X3.free 2
    have y3 := X3.free 3
    have y4 := X3.free 4
    have y5 := X3.free 5
    clear hb3 HX2 HY2 HB2 c0 c1 c2 c3 c4 c5
    go_wp2
    have G := X3.put 0 0 0 0 ⟨#[]⟩ ⟨#[]⟩
    exact bodyPost_ret (v := .tuple #[.agg #[.int .i64 0, .int .i64 0, .int .i64 0, .int .i64 0, .string ⟨#[]⟩, .string ⟨#[]⟩], .int .i64 60]) (by simp [results, Tryz.results16, go_sem, G.cell0, G.cell1, G.cell2, G.cell3, G.cell4, G.cell5]) rfl
      ⟨rfl, below_put6 HB3.out (Nat.le_refl _) _ _ _ _ _ _⟩
  · obtain ⟨u1, u2⟩ := unlike_tests hAs
    have X3 := HX2.out
    have z0 := X3.cell0
    have z1 := X3.cell1
    have z2 := X3.cell2
    have z3 := X3.cell3
    have z4 := X3.cell4
    have z5 := X3.cell5
    have y0 := X3.free 0
    have y1 := X3.free 1
    have y2 := X3.free 2
    have y3 := X3.free 3
    have y4 := X3.free 4
    have y5 := X3.free 5
    clear HX2 HY2 HNK hAs
    go_wp2
    have G := X3.put 0 0 0 0 ⟨#[]⟩ ⟨#[]⟩
    exact bodyPost_ret (v := .tuple #[.agg #[.int .i64 0, .int .i64 0, .int .i64 0, .int .i64 0, .string ⟨#[]⟩, .string ⟨#[]⟩], .int .i64 60]) (by simp [results, Tryz.results16, go_sem, G.cell0, G.cell1, G.cell2, G.cell3, G.cell4, G.cell5]) rfl
      ⟨rfl, below_put6 HB2.out (Nat.le_refl _) _ _ _ _ _ _⟩
end Go.Proofs.YtklaeocnimkboaaGreatDoor


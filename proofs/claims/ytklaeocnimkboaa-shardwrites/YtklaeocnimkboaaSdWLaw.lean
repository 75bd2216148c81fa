/-
  ShardWrites: its walk.
-/
import Derived.Test.YtklaeocnimkboaaSdWrites
namespace Go.Proofs.Ytklaeocnimkboaa
open Go.RowKit Go.Lib

/-- One plain answer of the program and of the document. -/
theorem enc_both (k m i long : Int) (id data : ByteArray) (hm : m ≤ 9223372036854775807) : ∃ (A : ByteArray) (c : Int), (c = 0 ∨ c = 60) ∧ ∀ w : World,
    (Calls Try.prog 6 #[.agg #[.int .i64 k, .int .i64 m, .int .i64 i, .int .i64 long, .string id, .string data]] w fun e w' => e = .returned (.tuple #[.string A, .int .i64 c]) ∧ Below w.heap.size w w') ∧
    (Calls Try.prog 7 #[.agg #[.int .i64 k, .int .i64 m, .int .i64 i, .int .i64 long, .string id, .string data]] w fun e w' => e = .returned (.tuple #[.string A, .int .i64 c]) ∧ Below w.heap.size w w') ∧
    (Calls Try.prog 11 #[.agg #[.int .i64 k, .int .i64 m, .int .i64 i, .int .i64 long, .string id, .string data]] w fun e w' => e = .returned (.int .i64 c) ∧ Below w.heap.size w w') ∧
    (Calls Try.prog 12 #[.agg #[.int .i64 k, .int .i64 m, .int .i64 i, .int .i64 long, .string id, .string data]] w fun e w' => e = .returned (.int .i64 c) ∧ Below w.heap.size w w') := by
  by_cases h : okS ⟨k, m, i, long, id, data⟩
  · exact ⟨_, 0, .inl rfl, fun w => ⟨encode_ok k m i long id data w h, refEncode_ok k m i long id data w h, check_ok k m i long id data w h, refCheck_ok k m i long id data w h⟩⟩
  · exact ⟨_, 60, .inr rfl, fun w => ⟨encode_bad k m i long id data w hm h, refEncode_bad k m i long id data w h, check_bad k m i long id data w hm h, refCheck_bad k m i long id data w h⟩⟩
theorem dec_both (s : ByteArray) (hs : s.size ≤ 1000000) : ∃ (k m i long : Int) (id data : ByteArray) (c : Int), (c = 0 ∨ c = 60) ∧ ∀ w : World,
    (Calls Try.prog 9 #[.string s] w fun e w' => e = .returned (.tuple #[.agg #[.int .i64 k, .int .i64 m, .int .i64 i, .int .i64 long, .string id, .string data], .int .i64 c]) ∧ Below w.heap.size w w') ∧
    (Calls Try.prog 10 #[.string s] w fun e w' => e = .returned (.tuple #[.agg #[.int .i64 k, .int .i64 m, .int .i64 i, .int .i64 long, .string id, .string data], .int .i64 c]) ∧ Below w.heap.size w w') := by
  by_cases h : decOK s.data.toList
  · obtain ⟨⟨k, m, i, long, id, data⟩, hx⟩ : ∃ x, x = decX s.data.toList := ⟨_, rfl⟩
    refine ⟨k, m, i, long, id, data, 0, .inl rfl, fun w => ⟨?_, ?_⟩⟩
    · refine (decode_ok s w hs h).mono ?_
      rintro e w' ⟨k2, m2, i2, l2, id2, da2, rfl, h2, hb⟩
      rw [← hx] at h2
      simp only [SX.mk.injEq] at h2
      obtain ⟨rfl, rfl, rfl, rfl, rfl, rfl⟩ := h2
      exact ⟨rfl, hb⟩
    · refine (refDecode_ok s w hs h).mono ?_
      rintro e w' ⟨k2, m2, i2, l2, id2, da2, rfl, h2, hb⟩
      rw [← hx] at h2
      simp only [SX.mk.injEq] at h2
      obtain ⟨rfl, rfl, rfl, rfl, rfl, rfl⟩ := h2
      exact ⟨rfl, hb⟩
  · exact ⟨0, 0, 0, 0, ⟨#[]⟩, ⟨#[]⟩, 60, .inr rfl, fun w => ⟨decode_bad s w hs h, refDecode_bad s w hs h⟩⟩

set_option maxRecDepth 100000 in
set_option maxHeartbeats 3200000 in
theorem writes_walk (k m i long : Int) (id data s : ByteArray) (w : World) (hm : m ≤ 9223372036854775807) :
    Calls Try.prog 3 #[.agg #[.int .i64 k, .int .i64 m, .int .i64 i, .int .i64 long, .string id, .string data], .string s] w fun e w' => e = .returned (.bool true) ∧ Below w.heap.size w w' := by
  have X := SK.new 23 w k m i long id data
  obtain ⟨W0, hW⟩ : ∃ W, W = w.alloc (.cells #[.int .i64 k, .int .i64 m, .int .i64 i, .int .i64 long, .string id, .string data] 23) := ⟨_, rfl⟩
  have HB : Hid (Below w.heap.size w W0) := by rw [hW]; exact below_alloc (Below.refl _ _) _
  rw [← hW] at X
  have HW := hide hW
  have HX := hide X
  have hl := X.lt
  have c0 := X.cell0
  have c1 := X.cell1
  have c2 := X.cell2
  have c3 := X.cell3
  have c4 := X.cell4
  have c5 := X.cell5
  clear X hW
  by_cases h1 : 2000 < data.size
  · go_enter Try.func3, Try.ntmps3
    go_upto_region 1 with fail
    rw [← HW.out]
    go_wp2_with fail
    refine (sworks_any W0).mono ?_
    rintro e w1 ⟨rfl, hw1⟩
    subst w1
    go_wp2
    go_ret
    exact ⟨rfl, HB.out⟩
  by_cases h2 : 2000 < s.size
  · go_enter Try.func3, Try.ntmps3
    go_upto_region 1 with fail
    rw [← HW.out]
    go_wp2_with fail
    refine (sworks_any W0).mono ?_
    rintro e w1 ⟨rfl, hw1⟩
    subst w1
    go_wp2
    go_ret
    exact ⟨rfl, HB.out⟩
  obtain ⟨A, c, hc, hE⟩ := enc_both k m i long id data hm
  obtain ⟨k2, m2, i2, l2, id2, da2, g, hg, hD⟩ := dec_both s (by omega)
  have HE := hide hE
  have HD := hide hD
  have HC := hide hc
  have HG := hide hg
  have hz : s.size ≤ 140737488355328 := by omega
  clear hE hD hc hg
  go_enter Try.func3, Try.ntmps3
  go_upto_region 1 with fail
  rw [← HW.out]
  go_wp2_with fail
  refine (HE.out W0).1.mono ?_
  rintro e w1 ⟨rfl, hb1⟩
  have HX1 := hide (HX.out.below hb1 hl)
  have HB1 := hide (HB.out.trans (hb1.mono HB.out.size))
  clear hb1 HX HB HW c0 c1 c2 c3 c4 c5
  have c0 := HX1.out.cell0
  have c1 := HX1.out.cell1
  have c2 := HX1.out.cell2
  have c3 := HX1.out.cell3
  have c4 := HX1.out.cell4
  have c5 := HX1.out.cell5
  go_wp2_with fail
  refine (of_any k m i long id data _).mono ?_
  rintro e w2 ⟨rfl, hb2⟩
  go_wp2_with fail
  refine (HE.out w2).2.1.mono ?_
  rintro e w3 ⟨rfl, hb3⟩
  have hb23 := below_step hb2 hb3
  have HX3 := hide (HX1.out.below hb23 HX1.out.lt)
  have HB3 := hide (HB1.out.trans (hb23.mono HB1.out.size))
  clear hb2 hb3 hb23 HX1 HB1 c0 c1 c2 c3 c4 c5
  go_wp2_with fail
  refine (HD.out w3).1.mono ?_
  rintro e w4 ⟨rfl, hb4⟩
  have HX4 := hide ((HX3.out.below hb4 HX3.out.lt).alloc (.cells #[.int .i64 k2, .int .i64 m2, .int .i64 i2, .int .i64 l2, .string id2, .string da2] 23))
  have HY4 := hide (SK.new 23 w4 k2 m2 i2 l2 id2 da2)
  have HB4 := hide ((HB3.out.trans (hb4.mono HB3.out.size)).alloc (Nat.le_trans HB3.out.size hb4.size) (.cells #[.int .i64 k2, .int .i64 m2, .int .i64 i2, .int .i64 l2, .string id2, .string da2] 23))
  obtain ⟨V, hV⟩ : ∃ V, V = w4.alloc (.cells #[.int .i64 k2, .int .i64 m2, .int .i64 i2, .int .i64 l2, .string id2, .string da2] 23) := ⟨_, rfl⟩
  rw [← hV] at HX4 HY4 HB4
  have HV := hide hV
  obtain ⟨p9, hp9⟩ : ∃ p, p = w4.heap.size := ⟨_, rfl⟩
  rw [← hp9] at HY4
  have HP9 := hide hp9
  clear hb4 HX3 HB3 hV hp9
  go_wp2_with fail
  rw [← HV.out, ← HP9.out]
  refine (HD.out V).2.mono ?_
  rintro e w5 ⟨rfl, hb5⟩
  have X6 := (HX4.out.below hb5 HX4.out.lt).alloc (.cells #[.int .i64 k2, .int .i64 m2, .int .i64 i2, .int .i64 l2, .string id2, .string da2] 29)
  have Y6 := (HY4.out.below hb5 HY4.out.lt).alloc (.cells #[.int .i64 k2, .int .i64 m2, .int .i64 i2, .int .i64 l2, .string id2, .string da2] 29)
  have Z6 := SK.new 29 w5 k2 m2 i2 l2 id2 da2
  have HB6 := hide ((HB4.out.trans (hb5.mono HB4.out.size)).alloc (Nat.le_trans HB4.out.size hb5.size) (.cells #[.int .i64 k2, .int .i64 m2, .int .i64 i2, .int .i64 l2, .string id2, .string da2] 29))
  obtain ⟨W, hW6⟩ : ∃ V, V = w5.alloc (.cells #[.int .i64 k2, .int .i64 m2, .int .i64 i2, .int .i64 l2, .string id2, .string da2] 29) := ⟨_, rfl⟩
  obtain ⟨p11, hp11⟩ : ∃ p, p = w5.heap.size := ⟨_, rfl⟩
  rw [← hW6] at X6 Y6 Z6 HB6
  rw [← hp11] at Z6
  have HW6 := hide hW6
  have HP11 := hide hp11
  clear hb5 HX4 HY4 HB4 hW6 hp11 HV HP9
  have KS : Hid (∀ w' w'' : World, Below W.heap.size W w' → Below w'.heap.size w' w'' → (Below W.heap.size W w'' ∧ w''.cell? ⟨w.heap.size, 0, none⟩ = some (.int .i64 k) ∧ w''.cell? ⟨w.heap.size, 1, none⟩ = some (.int .i64 m) ∧ w''.cell? ⟨w.heap.size, 2, none⟩ = some (.int .i64 i) ∧ w''.cell? ⟨w.heap.size, 3, none⟩ = some (.int .i64 long) ∧ w''.cell? ⟨w.heap.size, 4, none⟩ = some (.string id) ∧ w''.cell? ⟨w.heap.size, 5, none⟩ = some (.string data) ∧ w''.cell? ⟨p9, 0, none⟩ = some (.int .i64 k2) ∧ w''.cell? ⟨p9, 1, none⟩ = some (.int .i64 m2) ∧ w''.cell? ⟨p9, 2, none⟩ = some (.int .i64 i2) ∧ w''.cell? ⟨p9, 3, none⟩ = some (.int .i64 l2) ∧ w''.cell? ⟨p9, 4, none⟩ = some (.string id2) ∧ w''.cell? ⟨p9, 5, none⟩ = some (.string da2) ∧ w''.cell? ⟨p11, 0, none⟩ = some (.int .i64 k2) ∧ w''.cell? ⟨p11, 1, none⟩ = some (.int .i64 m2) ∧ w''.cell? ⟨p11, 2, none⟩ = some (.int .i64 i2) ∧ w''.cell? ⟨p11, 3, none⟩ = some (.int .i64 l2) ∧ w''.cell? ⟨p11, 4, none⟩ = some (.string id2) ∧ w''.cell? ⟨p11, 5, none⟩ = some (.string da2))) := fun w' w'' h1 h2 => by
    have h := below_step h1 h2
    have A := X6.below h X6.lt
    have B := Y6.below h Y6.lt
    have C := Z6.below h Z6.lt
    exact ⟨h, A.cell0, A.cell1, A.cell2, A.cell3, A.cell4, A.cell5, B.cell0, B.cell1, B.cell2, B.cell3, B.cell4, B.cell5, C.cell0, C.cell1, C.cell2, C.cell3, C.cell4, C.cell5⟩
  have S0 : Hid (Below W.heap.size W W.drew ∧ W.drew.cell? ⟨w.heap.size, 0, none⟩ = some (.int .i64 k) ∧ W.drew.cell? ⟨w.heap.size, 1, none⟩ = some (.int .i64 m) ∧ W.drew.cell? ⟨w.heap.size, 2, none⟩ = some (.int .i64 i) ∧ W.drew.cell? ⟨w.heap.size, 3, none⟩ = some (.int .i64 long) ∧ W.drew.cell? ⟨w.heap.size, 4, none⟩ = some (.string id) ∧ W.drew.cell? ⟨w.heap.size, 5, none⟩ = some (.string data) ∧ W.drew.cell? ⟨p9, 0, none⟩ = some (.int .i64 k2) ∧ W.drew.cell? ⟨p9, 1, none⟩ = some (.int .i64 m2) ∧ W.drew.cell? ⟨p9, 2, none⟩ = some (.int .i64 i2) ∧ W.drew.cell? ⟨p9, 3, none⟩ = some (.int .i64 l2) ∧ W.drew.cell? ⟨p9, 4, none⟩ = some (.string id2) ∧ W.drew.cell? ⟨p9, 5, none⟩ = some (.string da2) ∧ W.drew.cell? ⟨p11, 0, none⟩ = some (.int .i64 k2) ∧ W.drew.cell? ⟨p11, 1, none⟩ = some (.int .i64 m2) ∧ W.drew.cell? ⟨p11, 2, none⟩ = some (.int .i64 i2) ∧ W.drew.cell? ⟨p11, 3, none⟩ = some (.int .i64 l2) ∧ W.drew.cell? ⟨p11, 4, none⟩ = some (.string id2) ∧ W.drew.cell? ⟨p11, 5, none⟩ = some (.string da2)) := ⟨(Below.refl _ _).drew, X6.cell0, X6.cell1, X6.cell2, X6.cell3, X6.cell4, X6.cell5, Y6.cell0, Y6.cell1, Y6.cell2, Y6.cell3, Y6.cell4, Y6.cell5, Z6.cell0, Z6.cell1, Z6.cell2, Z6.cell3, Z6.cell4, Z6.cell5⟩
  have C1 : Hid (∀ (v0 : Value) (w' : World), v0 = .agg #[.int .i64 k, .int .i64 m, .int .i64 i, .int .i64 long, .string id, .string data] → (Below W.heap.size W w' ∧ w'.cell? ⟨w.heap.size, 0, none⟩ = some (.int .i64 k) ∧ w'.cell? ⟨w.heap.size, 1, none⟩ = some (.int .i64 m) ∧ w'.cell? ⟨w.heap.size, 2, none⟩ = some (.int .i64 i) ∧ w'.cell? ⟨w.heap.size, 3, none⟩ = some (.int .i64 long) ∧ w'.cell? ⟨w.heap.size, 4, none⟩ = some (.string id) ∧ w'.cell? ⟨w.heap.size, 5, none⟩ = some (.string data) ∧ w'.cell? ⟨p9, 0, none⟩ = some (.int .i64 k2) ∧ w'.cell? ⟨p9, 1, none⟩ = some (.int .i64 m2) ∧ w'.cell? ⟨p9, 2, none⟩ = some (.int .i64 i2) ∧ w'.cell? ⟨p9, 3, none⟩ = some (.int .i64 l2) ∧ w'.cell? ⟨p9, 4, none⟩ = some (.string id2) ∧ w'.cell? ⟨p9, 5, none⟩ = some (.string da2) ∧ w'.cell? ⟨p11, 0, none⟩ = some (.int .i64 k2) ∧ w'.cell? ⟨p11, 1, none⟩ = some (.int .i64 m2) ∧ w'.cell? ⟨p11, 2, none⟩ = some (.int .i64 i2) ∧ w'.cell? ⟨p11, 3, none⟩ = some (.int .i64 l2) ∧ w'.cell? ⟨p11, 4, none⟩ = some (.string id2) ∧ w'.cell? ⟨p11, 5, none⟩ = some (.string da2)) → Calls Try.prog 11 #[v0] w' fun e w'' => e = .returned (.int .i64 c) ∧ (Below W.heap.size W w'' ∧ w''.cell? ⟨w.heap.size, 0, none⟩ = some (.int .i64 k) ∧ w''.cell? ⟨w.heap.size, 1, none⟩ = some (.int .i64 m) ∧ w''.cell? ⟨w.heap.size, 2, none⟩ = some (.int .i64 i) ∧ w''.cell? ⟨w.heap.size, 3, none⟩ = some (.int .i64 long) ∧ w''.cell? ⟨w.heap.size, 4, none⟩ = some (.string id) ∧ w''.cell? ⟨w.heap.size, 5, none⟩ = some (.string data) ∧ w''.cell? ⟨p9, 0, none⟩ = some (.int .i64 k2) ∧ w''.cell? ⟨p9, 1, none⟩ = some (.int .i64 m2) ∧ w''.cell? ⟨p9, 2, none⟩ = some (.int .i64 i2) ∧ w''.cell? ⟨p9, 3, none⟩ = some (.int .i64 l2) ∧ w''.cell? ⟨p9, 4, none⟩ = some (.string id2) ∧ w''.cell? ⟨p9, 5, none⟩ = some (.string da2) ∧ w''.cell? ⟨p11, 0, none⟩ = some (.int .i64 k2) ∧ w''.cell? ⟨p11, 1, none⟩ = some (.int .i64 m2) ∧ w''.cell? ⟨p11, 2, none⟩ = some (.int .i64 i2) ∧ w''.cell? ⟨p11, 3, none⟩ = some (.int .i64 l2) ∧ w''.cell? ⟨p11, 4, none⟩ = some (.string id2) ∧ w''.cell? ⟨p11, 5, none⟩ = some (.string da2))) := fun v0 w' hv0 h => by
    subst hv0
    exact ((HE.out w').2.2.1).mono fun _ _ ⟨he, hk⟩ => ⟨he, KS.out _ _ h.1 hk⟩
  have C2 : Hid (∀ (v0 : Value) (w' : World), v0 = .agg #[.int .i64 k, .int .i64 m, .int .i64 i, .int .i64 long, .string id, .string data] → (Below W.heap.size W w' ∧ w'.cell? ⟨w.heap.size, 0, none⟩ = some (.int .i64 k) ∧ w'.cell? ⟨w.heap.size, 1, none⟩ = some (.int .i64 m) ∧ w'.cell? ⟨w.heap.size, 2, none⟩ = some (.int .i64 i) ∧ w'.cell? ⟨w.heap.size, 3, none⟩ = some (.int .i64 long) ∧ w'.cell? ⟨w.heap.size, 4, none⟩ = some (.string id) ∧ w'.cell? ⟨w.heap.size, 5, none⟩ = some (.string data) ∧ w'.cell? ⟨p9, 0, none⟩ = some (.int .i64 k2) ∧ w'.cell? ⟨p9, 1, none⟩ = some (.int .i64 m2) ∧ w'.cell? ⟨p9, 2, none⟩ = some (.int .i64 i2) ∧ w'.cell? ⟨p9, 3, none⟩ = some (.int .i64 l2) ∧ w'.cell? ⟨p9, 4, none⟩ = some (.string id2) ∧ w'.cell? ⟨p9, 5, none⟩ = some (.string da2) ∧ w'.cell? ⟨p11, 0, none⟩ = some (.int .i64 k2) ∧ w'.cell? ⟨p11, 1, none⟩ = some (.int .i64 m2) ∧ w'.cell? ⟨p11, 2, none⟩ = some (.int .i64 i2) ∧ w'.cell? ⟨p11, 3, none⟩ = some (.int .i64 l2) ∧ w'.cell? ⟨p11, 4, none⟩ = some (.string id2) ∧ w'.cell? ⟨p11, 5, none⟩ = some (.string da2)) → Calls Try.prog 8 #[v0] w' fun e w'' => e = .returned (.agg #[.int .i64 k, .int .i64 m, .int .i64 i, .int .i64 long, .string id, .string data]) ∧ (Below W.heap.size W w'' ∧ w''.cell? ⟨w.heap.size, 0, none⟩ = some (.int .i64 k) ∧ w''.cell? ⟨w.heap.size, 1, none⟩ = some (.int .i64 m) ∧ w''.cell? ⟨w.heap.size, 2, none⟩ = some (.int .i64 i) ∧ w''.cell? ⟨w.heap.size, 3, none⟩ = some (.int .i64 long) ∧ w''.cell? ⟨w.heap.size, 4, none⟩ = some (.string id) ∧ w''.cell? ⟨w.heap.size, 5, none⟩ = some (.string data) ∧ w''.cell? ⟨p9, 0, none⟩ = some (.int .i64 k2) ∧ w''.cell? ⟨p9, 1, none⟩ = some (.int .i64 m2) ∧ w''.cell? ⟨p9, 2, none⟩ = some (.int .i64 i2) ∧ w''.cell? ⟨p9, 3, none⟩ = some (.int .i64 l2) ∧ w''.cell? ⟨p9, 4, none⟩ = some (.string id2) ∧ w''.cell? ⟨p9, 5, none⟩ = some (.string da2) ∧ w''.cell? ⟨p11, 0, none⟩ = some (.int .i64 k2) ∧ w''.cell? ⟨p11, 1, none⟩ = some (.int .i64 m2) ∧ w''.cell? ⟨p11, 2, none⟩ = some (.int .i64 i2) ∧ w''.cell? ⟨p11, 3, none⟩ = some (.int .i64 l2) ∧ w''.cell? ⟨p11, 4, none⟩ = some (.string id2) ∧ w''.cell? ⟨p11, 5, none⟩ = some (.string da2))) := fun v0 w' hv0 h => by
    subst hv0
    exact (of_any k m i long id data w').mono fun _ _ ⟨he, hk⟩ => ⟨he, KS.out _ _ h.1 hk⟩
  have C3 : Hid (∀ (v0 : Value) (w' : World), v0 = .agg #[.int .i64 k, .int .i64 m, .int .i64 i, .int .i64 long, .string id, .string data] → (Below W.heap.size W w' ∧ w'.cell? ⟨w.heap.size, 0, none⟩ = some (.int .i64 k) ∧ w'.cell? ⟨w.heap.size, 1, none⟩ = some (.int .i64 m) ∧ w'.cell? ⟨w.heap.size, 2, none⟩ = some (.int .i64 i) ∧ w'.cell? ⟨w.heap.size, 3, none⟩ = some (.int .i64 long) ∧ w'.cell? ⟨w.heap.size, 4, none⟩ = some (.string id) ∧ w'.cell? ⟨w.heap.size, 5, none⟩ = some (.string data) ∧ w'.cell? ⟨p9, 0, none⟩ = some (.int .i64 k2) ∧ w'.cell? ⟨p9, 1, none⟩ = some (.int .i64 m2) ∧ w'.cell? ⟨p9, 2, none⟩ = some (.int .i64 i2) ∧ w'.cell? ⟨p9, 3, none⟩ = some (.int .i64 l2) ∧ w'.cell? ⟨p9, 4, none⟩ = some (.string id2) ∧ w'.cell? ⟨p9, 5, none⟩ = some (.string da2) ∧ w'.cell? ⟨p11, 0, none⟩ = some (.int .i64 k2) ∧ w'.cell? ⟨p11, 1, none⟩ = some (.int .i64 m2) ∧ w'.cell? ⟨p11, 2, none⟩ = some (.int .i64 i2) ∧ w'.cell? ⟨p11, 3, none⟩ = some (.int .i64 l2) ∧ w'.cell? ⟨p11, 4, none⟩ = some (.string id2) ∧ w'.cell? ⟨p11, 5, none⟩ = some (.string da2)) → Calls Try.prog 12 #[v0] w' fun e w'' => e = .returned (.int .i64 c) ∧ (Below W.heap.size W w'' ∧ w''.cell? ⟨w.heap.size, 0, none⟩ = some (.int .i64 k) ∧ w''.cell? ⟨w.heap.size, 1, none⟩ = some (.int .i64 m) ∧ w''.cell? ⟨w.heap.size, 2, none⟩ = some (.int .i64 i) ∧ w''.cell? ⟨w.heap.size, 3, none⟩ = some (.int .i64 long) ∧ w''.cell? ⟨w.heap.size, 4, none⟩ = some (.string id) ∧ w''.cell? ⟨w.heap.size, 5, none⟩ = some (.string data) ∧ w''.cell? ⟨p9, 0, none⟩ = some (.int .i64 k2) ∧ w''.cell? ⟨p9, 1, none⟩ = some (.int .i64 m2) ∧ w''.cell? ⟨p9, 2, none⟩ = some (.int .i64 i2) ∧ w''.cell? ⟨p9, 3, none⟩ = some (.int .i64 l2) ∧ w''.cell? ⟨p9, 4, none⟩ = some (.string id2) ∧ w''.cell? ⟨p9, 5, none⟩ = some (.string da2) ∧ w''.cell? ⟨p11, 0, none⟩ = some (.int .i64 k2) ∧ w''.cell? ⟨p11, 1, none⟩ = some (.int .i64 m2) ∧ w''.cell? ⟨p11, 2, none⟩ = some (.int .i64 i2) ∧ w''.cell? ⟨p11, 3, none⟩ = some (.int .i64 l2) ∧ w''.cell? ⟨p11, 4, none⟩ = some (.string id2) ∧ w''.cell? ⟨p11, 5, none⟩ = some (.string da2))) := fun v0 w' hv0 h => by
    subst hv0
    exact ((HE.out w').2.2.2).mono fun _ _ ⟨he, hk⟩ => ⟨he, KS.out _ _ h.1 hk⟩
  have C4 : Hid (∀ (v0 v1 : Value) (w' : World), v0 = .agg #[.int .i64 k2, .int .i64 m2, .int .i64 i2, .int .i64 l2, .string id2, .string da2] → v1 = .agg #[.int .i64 k2, .int .i64 m2, .int .i64 i2, .int .i64 l2, .string id2, .string da2] → (Below W.heap.size W w' ∧ w'.cell? ⟨w.heap.size, 0, none⟩ = some (.int .i64 k) ∧ w'.cell? ⟨w.heap.size, 1, none⟩ = some (.int .i64 m) ∧ w'.cell? ⟨w.heap.size, 2, none⟩ = some (.int .i64 i) ∧ w'.cell? ⟨w.heap.size, 3, none⟩ = some (.int .i64 long) ∧ w'.cell? ⟨w.heap.size, 4, none⟩ = some (.string id) ∧ w'.cell? ⟨w.heap.size, 5, none⟩ = some (.string data) ∧ w'.cell? ⟨p9, 0, none⟩ = some (.int .i64 k2) ∧ w'.cell? ⟨p9, 1, none⟩ = some (.int .i64 m2) ∧ w'.cell? ⟨p9, 2, none⟩ = some (.int .i64 i2) ∧ w'.cell? ⟨p9, 3, none⟩ = some (.int .i64 l2) ∧ w'.cell? ⟨p9, 4, none⟩ = some (.string id2) ∧ w'.cell? ⟨p9, 5, none⟩ = some (.string da2) ∧ w'.cell? ⟨p11, 0, none⟩ = some (.int .i64 k2) ∧ w'.cell? ⟨p11, 1, none⟩ = some (.int .i64 m2) ∧ w'.cell? ⟨p11, 2, none⟩ = some (.int .i64 i2) ∧ w'.cell? ⟨p11, 3, none⟩ = some (.int .i64 l2) ∧ w'.cell? ⟨p11, 4, none⟩ = some (.string id2) ∧ w'.cell? ⟨p11, 5, none⟩ = some (.string da2)) → Calls Try.prog 13 #[v0, v1] w' fun e w'' => e = .returned (.bool true) ∧ (Below W.heap.size W w'' ∧ w''.cell? ⟨w.heap.size, 0, none⟩ = some (.int .i64 k) ∧ w''.cell? ⟨w.heap.size, 1, none⟩ = some (.int .i64 m) ∧ w''.cell? ⟨w.heap.size, 2, none⟩ = some (.int .i64 i) ∧ w''.cell? ⟨w.heap.size, 3, none⟩ = some (.int .i64 long) ∧ w''.cell? ⟨w.heap.size, 4, none⟩ = some (.string id) ∧ w''.cell? ⟨w.heap.size, 5, none⟩ = some (.string data) ∧ w''.cell? ⟨p9, 0, none⟩ = some (.int .i64 k2) ∧ w''.cell? ⟨p9, 1, none⟩ = some (.int .i64 m2) ∧ w''.cell? ⟨p9, 2, none⟩ = some (.int .i64 i2) ∧ w''.cell? ⟨p9, 3, none⟩ = some (.int .i64 l2) ∧ w''.cell? ⟨p9, 4, none⟩ = some (.string id2) ∧ w''.cell? ⟨p9, 5, none⟩ = some (.string da2) ∧ w''.cell? ⟨p11, 0, none⟩ = some (.int .i64 k2) ∧ w''.cell? ⟨p11, 1, none⟩ = some (.int .i64 m2) ∧ w''.cell? ⟨p11, 2, none⟩ = some (.int .i64 i2) ∧ w''.cell? ⟨p11, 3, none⟩ = some (.int .i64 l2) ∧ w''.cell? ⟨p11, 4, none⟩ = some (.string id2) ∧ w''.cell? ⟨p11, 5, none⟩ = some (.string da2))) := fun v0 v1 w' hv0 hv1 h => by
    subst hv0
    subst hv1
    exact (same_true k2 m2 i2 l2 id2 da2 w').mono fun _ _ ⟨he, hk⟩ => ⟨he, KS.out _ _ h.1 hk⟩
  obtain ⟨N, hN⟩ : ∃ N, N = crcV s.data.toList := ⟨_, rfl⟩
  have CRC1 : Hid (∀ w' : World, Calls Try.prog 14 #[.string s] w' fun e w'' => e = .returned (.int .i64 (N : Int)) ∧ Below w'.heap.size w' w'') := fun w' => by rw [hN]; exact (crc_any s w' hz).mono fun _ _ ⟨he, hk⟩ => ⟨he, by rw [hk]; exact Below.refl _ _⟩
  have CRC2 : Hid (∀ w' : World, Calls Try.prog 15 #[.string s] w' fun e w'' => e = .returned (.int .i64 (N : Int)) ∧ Below w'.heap.size w' w'') := fun w' => by rw [hN]; exact (refCrc_any s w' hz).mono fun _ _ ⟨he, hk⟩ => ⟨he, by rw [hk]; exact Below.refl _ _⟩
  have WRK : Hid (∀ w' : World, Calls Try.prog 5 #[] w' fun e w'' => e = .returned (.bool true) ∧ Below w'.heap.size w' w'') := fun w' => (sworks_any w').mono fun _ _ ⟨he, hk⟩ => ⟨he, by rw [hk]; exact Below.refl _ _⟩
  have C5 : Hid (∀ (v0 : Value) (w' : World), v0 = .string s → (Below W.heap.size W w' ∧ w'.cell? ⟨w.heap.size, 0, none⟩ = some (.int .i64 k) ∧ w'.cell? ⟨w.heap.size, 1, none⟩ = some (.int .i64 m) ∧ w'.cell? ⟨w.heap.size, 2, none⟩ = some (.int .i64 i) ∧ w'.cell? ⟨w.heap.size, 3, none⟩ = some (.int .i64 long) ∧ w'.cell? ⟨w.heap.size, 4, none⟩ = some (.string id) ∧ w'.cell? ⟨w.heap.size, 5, none⟩ = some (.string data) ∧ w'.cell? ⟨p9, 0, none⟩ = some (.int .i64 k2) ∧ w'.cell? ⟨p9, 1, none⟩ = some (.int .i64 m2) ∧ w'.cell? ⟨p9, 2, none⟩ = some (.int .i64 i2) ∧ w'.cell? ⟨p9, 3, none⟩ = some (.int .i64 l2) ∧ w'.cell? ⟨p9, 4, none⟩ = some (.string id2) ∧ w'.cell? ⟨p9, 5, none⟩ = some (.string da2) ∧ w'.cell? ⟨p11, 0, none⟩ = some (.int .i64 k2) ∧ w'.cell? ⟨p11, 1, none⟩ = some (.int .i64 m2) ∧ w'.cell? ⟨p11, 2, none⟩ = some (.int .i64 i2) ∧ w'.cell? ⟨p11, 3, none⟩ = some (.int .i64 l2) ∧ w'.cell? ⟨p11, 4, none⟩ = some (.string id2) ∧ w'.cell? ⟨p11, 5, none⟩ = some (.string da2)) → Calls Try.prog 14 #[v0] w' fun e w'' => e = .returned (.int .i64 (N : Int)) ∧ (Below W.heap.size W w'' ∧ w''.cell? ⟨w.heap.size, 0, none⟩ = some (.int .i64 k) ∧ w''.cell? ⟨w.heap.size, 1, none⟩ = some (.int .i64 m) ∧ w''.cell? ⟨w.heap.size, 2, none⟩ = some (.int .i64 i) ∧ w''.cell? ⟨w.heap.size, 3, none⟩ = some (.int .i64 long) ∧ w''.cell? ⟨w.heap.size, 4, none⟩ = some (.string id) ∧ w''.cell? ⟨w.heap.size, 5, none⟩ = some (.string data) ∧ w''.cell? ⟨p9, 0, none⟩ = some (.int .i64 k2) ∧ w''.cell? ⟨p9, 1, none⟩ = some (.int .i64 m2) ∧ w''.cell? ⟨p9, 2, none⟩ = some (.int .i64 i2) ∧ w''.cell? ⟨p9, 3, none⟩ = some (.int .i64 l2) ∧ w''.cell? ⟨p9, 4, none⟩ = some (.string id2) ∧ w''.cell? ⟨p9, 5, none⟩ = some (.string da2) ∧ w''.cell? ⟨p11, 0, none⟩ = some (.int .i64 k2) ∧ w''.cell? ⟨p11, 1, none⟩ = some (.int .i64 m2) ∧ w''.cell? ⟨p11, 2, none⟩ = some (.int .i64 i2) ∧ w''.cell? ⟨p11, 3, none⟩ = some (.int .i64 l2) ∧ w''.cell? ⟨p11, 4, none⟩ = some (.string id2) ∧ w''.cell? ⟨p11, 5, none⟩ = some (.string da2))) := fun v0 w' hv0 h => by
    subst hv0
    exact (CRC1.out w').mono fun _ _ ⟨he, hk⟩ => ⟨he, KS.out _ _ h.1 hk⟩
  have C6 : Hid (∀ (v0 : Value) (w' : World), v0 = .string s → (Below W.heap.size W w' ∧ w'.cell? ⟨w.heap.size, 0, none⟩ = some (.int .i64 k) ∧ w'.cell? ⟨w.heap.size, 1, none⟩ = some (.int .i64 m) ∧ w'.cell? ⟨w.heap.size, 2, none⟩ = some (.int .i64 i) ∧ w'.cell? ⟨w.heap.size, 3, none⟩ = some (.int .i64 long) ∧ w'.cell? ⟨w.heap.size, 4, none⟩ = some (.string id) ∧ w'.cell? ⟨w.heap.size, 5, none⟩ = some (.string data) ∧ w'.cell? ⟨p9, 0, none⟩ = some (.int .i64 k2) ∧ w'.cell? ⟨p9, 1, none⟩ = some (.int .i64 m2) ∧ w'.cell? ⟨p9, 2, none⟩ = some (.int .i64 i2) ∧ w'.cell? ⟨p9, 3, none⟩ = some (.int .i64 l2) ∧ w'.cell? ⟨p9, 4, none⟩ = some (.string id2) ∧ w'.cell? ⟨p9, 5, none⟩ = some (.string da2) ∧ w'.cell? ⟨p11, 0, none⟩ = some (.int .i64 k2) ∧ w'.cell? ⟨p11, 1, none⟩ = some (.int .i64 m2) ∧ w'.cell? ⟨p11, 2, none⟩ = some (.int .i64 i2) ∧ w'.cell? ⟨p11, 3, none⟩ = some (.int .i64 l2) ∧ w'.cell? ⟨p11, 4, none⟩ = some (.string id2) ∧ w'.cell? ⟨p11, 5, none⟩ = some (.string da2)) → Calls Try.prog 15 #[v0] w' fun e w'' => e = .returned (.int .i64 (N : Int)) ∧ (Below W.heap.size W w'' ∧ w''.cell? ⟨w.heap.size, 0, none⟩ = some (.int .i64 k) ∧ w''.cell? ⟨w.heap.size, 1, none⟩ = some (.int .i64 m) ∧ w''.cell? ⟨w.heap.size, 2, none⟩ = some (.int .i64 i) ∧ w''.cell? ⟨w.heap.size, 3, none⟩ = some (.int .i64 long) ∧ w''.cell? ⟨w.heap.size, 4, none⟩ = some (.string id) ∧ w''.cell? ⟨w.heap.size, 5, none⟩ = some (.string data) ∧ w''.cell? ⟨p9, 0, none⟩ = some (.int .i64 k2) ∧ w''.cell? ⟨p9, 1, none⟩ = some (.int .i64 m2) ∧ w''.cell? ⟨p9, 2, none⟩ = some (.int .i64 i2) ∧ w''.cell? ⟨p9, 3, none⟩ = some (.int .i64 l2) ∧ w''.cell? ⟨p9, 4, none⟩ = some (.string id2) ∧ w''.cell? ⟨p9, 5, none⟩ = some (.string da2) ∧ w''.cell? ⟨p11, 0, none⟩ = some (.int .i64 k2) ∧ w''.cell? ⟨p11, 1, none⟩ = some (.int .i64 m2) ∧ w''.cell? ⟨p11, 2, none⟩ = some (.int .i64 i2) ∧ w''.cell? ⟨p11, 3, none⟩ = some (.int .i64 l2) ∧ w''.cell? ⟨p11, 4, none⟩ = some (.string id2) ∧ w''.cell? ⟨p11, 5, none⟩ = some (.string da2))) := fun v0 w' hv0 h => by
    subst hv0
    exact (CRC2.out w').mono fun _ _ ⟨he, hk⟩ => ⟨he, KS.out _ _ h.1 hk⟩
  have C7 : Hid (∀ (w' : World), (Below W.heap.size W w' ∧ w'.cell? ⟨w.heap.size, 0, none⟩ = some (.int .i64 k) ∧ w'.cell? ⟨w.heap.size, 1, none⟩ = some (.int .i64 m) ∧ w'.cell? ⟨w.heap.size, 2, none⟩ = some (.int .i64 i) ∧ w'.cell? ⟨w.heap.size, 3, none⟩ = some (.int .i64 long) ∧ w'.cell? ⟨w.heap.size, 4, none⟩ = some (.string id) ∧ w'.cell? ⟨w.heap.size, 5, none⟩ = some (.string data) ∧ w'.cell? ⟨p9, 0, none⟩ = some (.int .i64 k2) ∧ w'.cell? ⟨p9, 1, none⟩ = some (.int .i64 m2) ∧ w'.cell? ⟨p9, 2, none⟩ = some (.int .i64 i2) ∧ w'.cell? ⟨p9, 3, none⟩ = some (.int .i64 l2) ∧ w'.cell? ⟨p9, 4, none⟩ = some (.string id2) ∧ w'.cell? ⟨p9, 5, none⟩ = some (.string da2) ∧ w'.cell? ⟨p11, 0, none⟩ = some (.int .i64 k2) ∧ w'.cell? ⟨p11, 1, none⟩ = some (.int .i64 m2) ∧ w'.cell? ⟨p11, 2, none⟩ = some (.int .i64 i2) ∧ w'.cell? ⟨p11, 3, none⟩ = some (.int .i64 l2) ∧ w'.cell? ⟨p11, 4, none⟩ = some (.string id2) ∧ w'.cell? ⟨p11, 5, none⟩ = some (.string da2)) → Calls Try.prog 5 #[] w' fun e w'' => e = .returned (.bool true) ∧ (Below W.heap.size W w'' ∧ w''.cell? ⟨w.heap.size, 0, none⟩ = some (.int .i64 k) ∧ w''.cell? ⟨w.heap.size, 1, none⟩ = some (.int .i64 m) ∧ w''.cell? ⟨w.heap.size, 2, none⟩ = some (.int .i64 i) ∧ w''.cell? ⟨w.heap.size, 3, none⟩ = some (.int .i64 long) ∧ w''.cell? ⟨w.heap.size, 4, none⟩ = some (.string id) ∧ w''.cell? ⟨w.heap.size, 5, none⟩ = some (.string data) ∧ w''.cell? ⟨p9, 0, none⟩ = some (.int .i64 k2) ∧ w''.cell? ⟨p9, 1, none⟩ = some (.int .i64 m2) ∧ w''.cell? ⟨p9, 2, none⟩ = some (.int .i64 i2) ∧ w''.cell? ⟨p9, 3, none⟩ = some (.int .i64 l2) ∧ w''.cell? ⟨p9, 4, none⟩ = some (.string id2) ∧ w''.cell? ⟨p9, 5, none⟩ = some (.string da2) ∧ w''.cell? ⟨p11, 0, none⟩ = some (.int .i64 k2) ∧ w''.cell? ⟨p11, 1, none⟩ = some (.int .i64 m2) ∧ w''.cell? ⟨p11, 2, none⟩ = some (.int .i64 i2) ∧ w''.cell? ⟨p11, 3, none⟩ = some (.int .i64 l2) ∧ w''.cell? ⟨p11, 4, none⟩ = some (.string id2) ∧ w''.cell? ⟨p11, 5, none⟩ = some (.string da2))) := fun w' h => by
    exact (WRK.out w').mono fun _ _ ⟨he, hk⟩ => ⟨he, KS.out _ _ h.1 hk⟩
  clear X6 Y6 Z6 KS CRC1 CRC2 WRK hN HE HD
  have hcc : (c == c) = true := by simp
  go_upto_region 7 with fail
  rw [← HW6.out, ← HP11.out]
  go_region_held3 (fun w' => Below W.heap.size W w' ∧ w'.cell? ⟨w.heap.size, 0, none⟩ = some (.int .i64 k) ∧ w'.cell? ⟨w.heap.size, 1, none⟩ = some (.int .i64 m) ∧ w'.cell? ⟨w.heap.size, 2, none⟩ = some (.int .i64 i) ∧ w'.cell? ⟨w.heap.size, 3, none⟩ = some (.int .i64 long) ∧ w'.cell? ⟨w.heap.size, 4, none⟩ = some (.string id) ∧ w'.cell? ⟨w.heap.size, 5, none⟩ = some (.string data) ∧ w'.cell? ⟨p9, 0, none⟩ = some (.int .i64 k2) ∧ w'.cell? ⟨p9, 1, none⟩ = some (.int .i64 m2) ∧ w'.cell? ⟨p9, 2, none⟩ = some (.int .i64 i2) ∧ w'.cell? ⟨p9, 3, none⟩ = some (.int .i64 l2) ∧ w'.cell? ⟨p9, 4, none⟩ = some (.string id2) ∧ w'.cell? ⟨p9, 5, none⟩ = some (.string da2) ∧ w'.cell? ⟨p11, 0, none⟩ = some (.int .i64 k2) ∧ w'.cell? ⟨p11, 1, none⟩ = some (.int .i64 m2) ∧ w'.cell? ⟨p11, 2, none⟩ = some (.int .i64 i2) ∧ w'.cell? ⟨p11, 3, none⟩ = some (.int .i64 l2) ∧ w'.cell? ⟨p11, 4, none⟩ = some (.string id2) ∧ w'.cell? ⟨p11, 5, none⟩ = some (.string da2)) (first | assumption | exact S0.out)
    (first
      | (go_at_call 11; refine (C1.out _ _ (by with_reducible rfl) (by assumption)).mono ?_; rintro e wC1 ⟨rfl, kC1⟩)
      | (go_at_call 8; refine (C2.out _ _ (by with_reducible rfl) (by assumption)).mono ?_; rintro e wC2 ⟨rfl, kC2⟩)
      | (go_at_call 12; refine (C3.out _ _ (by with_reducible rfl) (by assumption)).mono ?_; rintro e wC3 ⟨rfl, kC3⟩)
      | (go_at_call 13; refine (C4.out _ _ _ (by with_reducible rfl) (by with_reducible rfl) (by assumption)).mono ?_; rintro e wC4 ⟨rfl, kC4⟩)
      | (go_at_call 14; refine (C5.out _ _ (by with_reducible rfl) (by assumption)).mono ?_; rintro e wC5 ⟨rfl, kC5⟩)
      | (go_at_call 15; refine (C6.out _ _ (by with_reducible rfl) (by assumption)).mono ?_; rintro e wC6 ⟨rfl, kC6⟩)
      | (go_at_call 5; refine (C7.out _ (by assumption)).mono ?_; rintro e wC7 ⟨rfl, kC7⟩))
  have hbb := hide (HB6.out.trans (kC7.1.mono HB6.out.size))
  clear kC1 kC2 kC3 kC4 kC5 kC6 kC7 C1 C2 C3 C4 C5 C6 C7 S0
  go_wp2
  go_ret
  exact ⟨rfl, hbb.out⟩
end Go.Proofs.Ytklaeocnimkboaa

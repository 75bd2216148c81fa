/-
  Which shards may be: IsId, checkBy, Check, as the program has them.
-/
import Derived.Test.YtklaeocnimkboaaGreatDoorSdText
namespace Go.Proofs.YtklaeocnimkboaaGreatDoor
open Go.RowKit Go.Lib

theorem isId_any (id : ByteArray) (w : World) : Calls Tryz.prog 50 #[.string id] w fun e w' => e = .returned (.bool (decide (id.size = 32))) ∧ w' = w := by
  by_cases h : id.size = 32
  · rw [decide_eq_true h]
    have h2 : ((id.size : Int) == 32) = true := by rw [h]; rfl
    clear h
    go_enter Tryz.func50, Tryz.ntmps50
    go_wp2
    go_ret
    exact ⟨rfl, rfl⟩
  · rw [decide_eq_false h]
    have h2 : ((id.size : Int) == 32) = false := by simp; omega
    clear h
    go_enter Tryz.func50, Tryz.ntmps50
    go_wp2
    go_ret
    exact ⟨rfl, rfl⟩

/-- Whether a shard of a plan may be. -/
def okB (k m : Nat) (i long : Int) (id data : ByteArray) : Prop := (0 ≤ i ∧ i < ((k + m : Nat) : Int)) ∧ (0 ≤ long ∧ long ≤ 65536) ∧ id.size = 32 ∧ data.size = eachN k long.toNat

section
variable {w : World} {b sb f1 f2 g k m : Nat}
set_option maxRecDepth 100000 in
set_option maxHeartbeats 400000 in
theorem checkBy_bad (h : PP w b sb f1 f2 g k m) (k1 : 1 ≤ k) (km : k + m ≤ 255) (xk xm i long : Int) (id data : ByteArray) (hn : ¬ okB k m i long id data) :
    Calls Tryz.prog 27 #[.pointer (some ⟨b, 0, none⟩), .agg #[.int .i64 xk, .int .i64 xm, .int .i64 i, .int .i64 long, .string id, .string data]] w fun e w' => e = .returned (.int .i64 60) ∧ Below w.heap.size w w' := by
  have X := SK.new 33 w xk xm i long id data
  have hB0 : Hid (Below w.heap.size w (w.alloc (.cells #[.int .i64 xk, .int .i64 xm, .int .i64 i, .int .i64 long, .string id, .string data] 33))) := below_alloc (Below.refl _ _) _
  have h1 := h.below hB0.out
  obtain ⟨W, hW⟩ : ∃ W, W = w.alloc (.cells #[.int .i64 xk, .int .i64 xm, .int .i64 i, .int .i64 long, .string id, .string data] 33) := ⟨_, rfl⟩
  rw [← hW] at X h1 hB0
  have HW := hide hW
  have HX := hide X
  have HP := hide h1
  have HN := hide hn
  clear h X h1 hn hW
  go_enter Tryz.func27, Tryz.ntmps27
  go_wp2_with fail
  rw [← HW.out]
  refine (shape_any HP.out).mono ?_
  rintro e w1 ⟨rfl, hb1⟩
  have HP1 := hide (HP.out.below hb1)
  have HX1 := hide (HX.out.below hb1 HX.out.lt)
  have HB1 := hide (hB0.out.trans (hb1.mono hB0.out.size))
  have c3 := HX1.out.cell3
  clear hb1 HP HX hB0 HW
  go_wp2_with fail
  refine (each_any HP1.out k1 (by omega) long).mono ?_
  rintro e w2 ⟨rfl, hb2⟩
  have HX2 := hide (HX1.out.below hb2 HX1.out.lt)
  have HB2 := hide (HB1.out.trans (hb2.mono HB1.out.size))
  have a2 := HX2.out.cell2
  have a4 := HX2.out.cell4
  have a5 := HX2.out.cell5
  clear c3 hb2 HP1 HX1 HB1
  by_cases hi : 0 ≤ i ∧ i < ((k + m : Nat) : Int)
  · obtain ⟨hi0, hi1⟩ := hi
    have hi2 : ¬ i < 0 := by omega
    have hi3 : ¬ ((k : Int) + (m : Int) ≤ i) := by omega
    by_cases hl : 0 ≤ long ∧ long ≤ 65536
    · have he : eachR k long = (((eachN k long.toNat : Nat) : Int), 0) := by rw [eachR, if_neg (by omega)]
      rw [he]
      by_cases hid : id.size = 32
      · have hda : (((data.size : Nat) : Int) != ((eachN k long.toNat : Nat) : Int)) = true := by
          rw [bne_iff_ne]
          intro hh
          exact HN.out ⟨⟨hi0, hi1⟩, hl, hid, by omega⟩
        have HE : Hid (decide (id.size = 32) = true) := decide_eq_true hid
        generalize eachN k long.toNat = q at *
        clear HN hid
        go_wp2_with fail
        refine (isId_any id _).mono ?_
        rintro e w3 ⟨rfl, hw3⟩
        subst w3
        rw [HE.out]
        go_wp2
        go_ret
        exact ⟨rfl, HB2.out⟩
      · have HE : Hid (decide (id.size = 32) = false) := decide_eq_false hid
        generalize eachN k long.toNat = q at *
        clear HN hid
        go_wp2_with fail
        refine (isId_any id _).mono ?_
        rintro e w3 ⟨rfl, hw3⟩
        subst w3
        rw [HE.out]
        go_wp2
        go_ret
        exact ⟨rfl, HB2.out⟩
    · have he : eachR k long = (0, 1) := by rw [eachR, if_pos (by omega)]
      rw [he]
      clear HN
      go_wp2
      go_ret
      exact ⟨rfl, HB2.out⟩
  · by_cases hi0 : i < 0
    · clear HN hi
      generalize eachR k long = q at *
      go_wp2
      go_ret
      exact ⟨rfl, HB2.out⟩
    · have hi1 : (k : Int) + (m : Int) ≤ i := by omega
      clear HN hi
      generalize eachR k long = q at *
      go_wp2
      go_ret
      exact ⟨rfl, HB2.out⟩

set_option maxRecDepth 100000 in
set_option maxHeartbeats 400000 in
theorem checkBy_ok (h : PP w b sb f1 f2 g k m) (k1 : 1 ≤ k) (km : k + m ≤ 255) (xk xm i long : Int) (id data : ByteArray) (hn : okB k m i long id data) :
    Calls Tryz.prog 27 #[.pointer (some ⟨b, 0, none⟩), .agg #[.int .i64 xk, .int .i64 xm, .int .i64 i, .int .i64 long, .string id, .string data]] w fun e w' => e = .returned (.int .i64 0) ∧ Below w.heap.size w w' := by
  have X := SK.new 33 w xk xm i long id data
  have hB0 : Hid (Below w.heap.size w (w.alloc (.cells #[.int .i64 xk, .int .i64 xm, .int .i64 i, .int .i64 long, .string id, .string data] 33))) := below_alloc (Below.refl _ _) _
  have h1 := h.below hB0.out
  obtain ⟨W, hW⟩ : ∃ W, W = w.alloc (.cells #[.int .i64 xk, .int .i64 xm, .int .i64 i, .int .i64 long, .string id, .string data] 33) := ⟨_, rfl⟩
  rw [← hW] at X h1 hB0
  have HW := hide hW
  have HX := hide X
  have HP := hide h1
  obtain ⟨⟨hi0, hi1⟩, hl, hid, hda⟩ := hn
  have hi2 : ¬ i < 0 := by omega
  have hi3 : ¬ ((k : Int) + (m : Int) ≤ i) := by omega
  have he : eachR k long = (((data.size : Nat) : Int), 0) := by rw [eachR, if_neg (by omega), hda]
  have HE : Hid (decide (id.size = 32) = true) := decide_eq_true hid
  have HEA := hide he
  clear h X h1 hW hl hda hid he hi1 hi0
  go_enter Tryz.func27, Tryz.ntmps27
  go_wp2_with fail
  rw [← HW.out]
  refine (shape_any HP.out).mono ?_
  rintro e w1 ⟨rfl, hb1⟩
  have HP1 := hide (HP.out.below hb1)
  have HX1 := hide (HX.out.below hb1 HX.out.lt)
  have HB1 := hide (hB0.out.trans (hb1.mono hB0.out.size))
  have c3 := HX1.out.cell3
  clear hb1 HP HX hB0 HW
  go_wp2_with fail
  refine (each_any HP1.out k1 (by omega) long).mono ?_
  rintro e w2 ⟨rfl, hb2⟩
  have HX2 := hide (HX1.out.below hb2 HX1.out.lt)
  have HB2 := hide (HB1.out.trans (hb2.mono HB1.out.size))
  have a2 := HX2.out.cell2
  have a4 := HX2.out.cell4
  have a5 := HX2.out.cell5
  clear c3 hb2 HP1 HX1 HB1
  rw [HEA.out]
  go_wp2_with fail
  refine (isId_any id _).mono ?_
  rintro e w3 ⟨rfl, hw3⟩
  subst w3
  rw [HE.out]
  go_wp2
  go_ret
  exact ⟨rfl, HB2.out⟩
end

theorem okS_iff (k m : Nat) (k1 : 1 ≤ k) (km : k + m ≤ 255) (i long : Int) (id data : ByteArray) : okS ⟨k, m, i, long, id, data⟩ ↔ okB k m i long id data := by
  unfold okS okB
  simp only [Int.toNat_natCast]
  constructor
  · rintro ⟨_, ⟨h1, h2⟩, h3⟩
    exact ⟨⟨h1, by omega⟩, h3⟩
  · rintro ⟨⟨h1, h2⟩, h3⟩
    exact ⟨⟨by omega, by omega, by omega⟩, ⟨h1, by omega⟩, h3⟩

set_option maxRecDepth 100000 in
set_option maxHeartbeats 400000 in
theorem check_ok (k m i long : Int) (id data : ByteArray) (w : World) (h : okS ⟨k, m, i, long, id, data⟩) :
    Calls Tryz.prog 32 #[.agg #[.int .i64 k, .int .i64 m, .int .i64 i, .int .i64 long, .string id, .string data]] w fun e w' => e = .returned (.int .i64 0) ∧ Below w.heap.size w w' := by
  have h0 := h.1
  simp only at h0
  obtain ⟨K, rfl⟩ := Int.eq_ofNat_of_zero_le (show 0 ≤ k by omega)
  obtain ⟨M, rfl⟩ := Int.eq_ofNat_of_zero_le (show 0 ≤ m by omega)
  have k1 : 1 ≤ K := by omega
  have km : K + M ≤ 255 := by omega
  have HO := hide ((okS_iff K M k1 km i long id data).1 h)
  have X := SK.new 33 w K M i long id data
  have hB0 : Hid (Below w.heap.size w (w.alloc (.cells #[.int .i64 (K : Int), .int .i64 (M : Int), .int .i64 i, .int .i64 long, .string id, .string data] 33))) := below_alloc (Below.refl _ _) _
  have HX := hide X
  clear h h0 X
  go_enter Tryz.func32, Tryz.ntmps32
  go_wp2_with fail
  refine (snew_ok k1 km).mono ?_
  rintro e w1 ⟨b, sb, f1, f2, g, rfl, hP, _, hb1⟩
  have HP := hide hP
  have HB1 := hide (hB0.out.trans (hb1.mono hB0.out.size))
  have Y := HX.out.below hb1 HX.out.lt
  have c0 := Y.cell0
  have c1 := Y.cell1
  have c2 := Y.cell2
  have c3 := Y.cell3
  have c4 := Y.cell4
  have c5 := Y.cell5
  clear hP hb1 HX hB0 Y
  go_wp2_with fail
  refine (checkBy_ok HP.out k1 km _ _ i long id data HO.out).mono ?_
  rintro e w2 ⟨rfl, hb2⟩
  go_wp2
  go_ret
  exact ⟨rfl, HB1.out.trans (hb2.mono HB1.out.size)⟩

set_option maxRecDepth 100000 in
set_option maxHeartbeats 400000 in
theorem check_bad (k m i long : Int) (id data : ByteArray) (w : World) (hm : m ≤ 9223372036854775807) (h : ¬ okS ⟨k, m, i, long, id, data⟩) :
    Calls Tryz.prog 32 #[.agg #[.int .i64 k, .int .i64 m, .int .i64 i, .int .i64 long, .string id, .string data]] w fun e w' => e = .returned (.int .i64 60) ∧ Below w.heap.size w w' := by
  have hB0 : Hid (Below w.heap.size w (w.alloc (.cells #[.int .i64 k, .int .i64 m, .int .i64 i, .int .i64 long, .string id, .string data] 33))) := below_alloc (Below.refl _ _) _
  by_cases hp : k < 1 ∨ m < 0 ∨ 255 - m < k
  · have HPB := hide hp
    clear h hp
    go_enter Tryz.func32, Tryz.ntmps32
    go_wp2_with fail
    refine (snew_bad k m hm HPB.out).mono ?_
    rintro e w1 ⟨rfl, hb1⟩
    have HB1 := hide (hB0.out.trans (hb1.mono hB0.out.size))
    clear hb1 hB0
    go_wp2
    go_ret
    exact ⟨rfl, HB1.out⟩
  · obtain ⟨K, rfl⟩ := Int.eq_ofNat_of_zero_le (show 0 ≤ k by omega)
    obtain ⟨M, rfl⟩ := Int.eq_ofNat_of_zero_le (show 0 ≤ m by omega)
    have k1 : 1 ≤ K := by omega
    have km : K + M ≤ 255 := by omega
    have HO : Hid (¬ okB K M i long id data) := fun hh => h ((okS_iff K M k1 km i long id data).2 hh)
    have X := SK.new 33 w K M i long id data
    have HX := hide X
    clear h hp X
    go_enter Tryz.func32, Tryz.ntmps32
    go_wp2_with fail
    refine (snew_ok k1 km).mono ?_
    rintro e w1 ⟨b, sb, f1, f2, g, rfl, hP, _, hb1⟩
    have HP := hide hP
    have HB1 := hide (hB0.out.trans (hb1.mono hB0.out.size))
    have Y := HX.out.below hb1 HX.out.lt
    have c0 := Y.cell0
    have c1 := Y.cell1
    have c2 := Y.cell2
    have c3 := Y.cell3
    have c4 := Y.cell4
    have c5 := Y.cell5
    clear hP hb1 HX hB0 Y
    go_wp2_with fail
    refine (checkBy_bad HP.out k1 km _ _ i long id data HO.out).mono ?_
    rintro e w2 ⟨rfl, hb2⟩
    go_wp2
    go_ret
    exact ⟨rfl, HB1.out.trans (hb2.mono HB1.out.size)⟩
end Go.Proofs.YtklaeocnimkboaaGreatDoor

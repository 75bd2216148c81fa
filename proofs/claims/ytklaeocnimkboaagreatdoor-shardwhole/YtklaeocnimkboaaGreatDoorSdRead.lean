/-
  What stands in bytes where a shard has its fields: the program's read.
-/
import Derived.Test.YtklaeocnimkboaaGreatDoorSdCheck
namespace Go.Proofs.YtklaeocnimkboaaGreatDoor
open Go.RowKit Go.Lib

theorem asked_le {s : ByteArray} {p : Nat} {x : Int} {B : Nm.Ah} (hp : p ≤ s.size) (h : Nm.AhOk s p B) : p + (Nm.asked x B).long ≤ s.size := by
  unfold Nm.asked
  split
  · rcases h with ⟨_, h⟩ | ⟨c, _, rfl⟩
    · exact h
    · exact hp
  · exact hp
theorem asked_num {s : ByteArray} {p k : Nat} {x : Int} : (Nm.asked x (Nm.fixedA s p k)).num < 256 ^ k := by
  have h0 : 0 < 256 ^ k := Nat.pow_pos (by decide)
  unfold Nm.asked
  split
  · unfold Nm.fixedA
    split
    · exact h0
    · split
      · exact h0
      · refine Nat.lt_of_lt_of_le (Nm.numOf_lt _) (Nat.pow_le_pow_right (by decide) ?_)
        simp
        omega
  · exact h0
theorem asked_txt {s : ByteArray} {p : Nat} {n x : Int} : (Nm.asked x (Nm.bytesA s p n)).txt.size ≤ s.size := by
  unfold Nm.asked
  split
  · unfold Nm.bytesA
    split
    · exact Nat.zero_le _
    · split
      · exact Nat.zero_le _
      · simp
        omega
  · exact Nat.zero_le _
/-- What a failed reader answers. -/
theorem asked_bad {x : Int} (h : x ≠ 0) (B : Nm.Ah) : (Nm.asked x B).txt = ⟨#[]⟩ ∧ (Nm.asked x B).code = x ∧ (Nm.asked x B).long = 0 := by
  rw [Nm.asked_some h]
  exact ⟨rfl, rfl, rfl⟩
theorem bytes_ok {s : ByteArray} {p k : Nat} (h : p + k ≤ s.size) : Nm.asked 0 (Nm.bytesA s p k) = ⟨0, s.extract p (p + k), k, 0⟩ := by
  rw [Nm.asked_zero, Nm.bytesA, if_neg (by omega), if_neg (by omega), Int.toNat_natCast]
theorem bytes_end {s : ByteArray} {p k : Nat} (h : ¬ p + k ≤ s.size) : Nm.asked 0 (Nm.bytesA s p k) = .bad 10 := by
  rw [Nm.asked_zero, Nm.bytesA, if_neg (by omega), if_pos (by omega)]
theorem fixed_ok {s : ByteArray} {p k : Nat} (h : p + k ≤ s.size) (h1 : 1 ≤ k) (h7 : k ≤ 7) : Nm.asked 0 (Nm.fixedA s p k) = ⟨Nm.numOf (s.extract p (p + k)).data.toList, ⟨#[]⟩, k, 0⟩ := by
  rw [Nm.asked_zero, Nm.fixedA, if_neg (by omega), if_neg (by omega), Int.toNat_natCast]
theorem fixed_end {s : ByteArray} {p k : Nat} (h : ¬ p + k ≤ s.size) (h1 : 1 ≤ k) (h7 : k ≤ 7) : Nm.asked 0 (Nm.fixedA s p k) = .bad 10 := by
  rw [Nm.asked_zero, Nm.fixedA, if_neg (by omega), if_pos (by omega)]
theorem ext_list (s : ByteArray) (p q : Nat) : (s.extract p q).data.toList = (s.data.toList.drop p).take (q - p) := by
  simp [ByteArray.data_extract, List.extract_eq_take_drop]
theorem drop_getD {l : List UInt8} {p : Nat} (h : p < l.length) : l.drop p = l.getD p 0 :: l.drop (p + 1) := by
  rw [List.drop_eq_getElem_cons h]
  simp [List.getD, h]
theorem num_one (s : ByteArray) {p : Nat} (h : p + 1 ≤ s.size) : Nm.numOf (s.extract p (p + 1)).data.toList = (s.data.toList.getD p 0).toNat := by
  have hl := bsize s
  rw [ext_list, drop_getD (by omega), show p + 1 - p = 1 by omega]
  simp [Nm.numOf]
theorem num_four (s : ByteArray) {p : Nat} (h : p + 4 ≤ s.size) : Nm.numOf (s.extract p (p + 4)).data.toList = nb4 (s.data.toList.getD p 0) (s.data.toList.getD (p + 1) 0) (s.data.toList.getD (p + 2) 0) (s.data.toList.getD (p + 3) 0) := by
  have hl := bsize s
  rw [ext_list, drop_getD (by omega), drop_getD (by omega), drop_getD (by omega), drop_getD (p := p + 1 + 1 + 1) (by omega), show p + 4 - p = 4 by omega, show p + 1 + 1 = p + 2 by omega, show p + 2 + 1 = p + 3 by omega]
  simp only [List.take_succ_cons, List.take_zero, Nm.numOf, List.foldl_cons, List.foldl_nil, nb4]
  omega
theorem ext_back (s : ByteArray) (p q : Nat) : s.extract p q = ⟨((s.data.toList.drop p).take (q - p)).toArray⟩ := by
  apply ByteArray.ext
  apply Array.toList_inj.1
  rw [ext_list]
theorem bad_on {c : Int} (h : c ≠ 0) (B : Nm.Ah) : Nm.asked (Nm.Ah.bad c).code B = .bad c := Nm.asked_some h B
/-- What the reader's answers come to. -/
theorem read_fields {s : ByteArray} {A0 A1 A2 A3 A4 A5 A6 : Nm.Ah} (h0 : A0 = Nm.asked 0 (Nm.bytesA s 0 4)) (h1 : A1 = Nm.asked A0.code (Nm.fixedA s A0.long 1)) (h2 : A2 = Nm.asked A1.code (Nm.fixedA s (A0.long + A1.long) 1))
    (h3 : A3 = Nm.asked A2.code (Nm.fixedA s (A0.long + A1.long + A2.long) 1)) (h4 : A4 = Nm.asked A3.code (Nm.fixedA s (A0.long + A1.long + A2.long + A3.long) 4)) (h5 : A5 = Nm.asked A4.code (Nm.bytesA s (A0.long + A1.long + A2.long + A3.long + A4.long) 32))
    (h6 : A6 = Nm.asked A5.code (Nm.bytesA s (A0.long + A1.long + A2.long + A3.long + A4.long + A5.long) ((s.size : Int) - ((A0.long + A1.long + A2.long + A3.long + A4.long + A5.long : Nat) : Int) - 4))) :
    (47 ≤ s.size → (⟨A1.num, A2.num, A3.num, A4.num, A5.txt, A6.txt⟩ : SX) = decX s.data.toList) ∧ (s.size < 47 → A5.txt.size ≠ 32 ∨ 15 + A5.txt.size + A6.txt.size ≠ s.size) := by
  have hl := bsize s
  have ten : (10 : Int) ≠ 0 := by decide
  have short : A5 = .bad 10 → s.size < 43 → ((47 ≤ s.size → (⟨A1.num, A2.num, A3.num, A4.num, A5.txt, A6.txt⟩ : SX) = decX s.data.toList) ∧ (s.size < 47 → A5.txt.size ≠ 32 ∨ 15 + A5.txt.size + A6.txt.size ≠ s.size)) := fun e h =>
    ⟨fun h' => by omega, fun _ => .inl (by rw [e]; decide)⟩
  by_cases c0 : 0 + 4 ≤ s.size
  · rw [show (4 : Int) = ((4 : Nat) : Int) from rfl, bytes_ok c0] at h0
    subst h0
    dsimp only at h1
    by_cases c1 : 4 + 1 ≤ s.size
    · rw [show (1 : Int) = ((1 : Nat) : Int) from rfl, fixed_ok c1 (by decide) (by decide)] at h1
      subst h1
      dsimp only at h2
      by_cases c2 : 5 + 1 ≤ s.size
      · rw [show (1 : Int) = ((1 : Nat) : Int) from rfl, fixed_ok c2 (by decide) (by decide)] at h2
        subst h2
        dsimp only at h3
        by_cases c3 : 6 + 1 ≤ s.size
        · rw [show (1 : Int) = ((1 : Nat) : Int) from rfl, fixed_ok c3 (by decide) (by decide)] at h3
          subst h3
          dsimp only at h4
          by_cases c4 : 7 + 4 ≤ s.size
          · rw [show (4 : Int) = ((4 : Nat) : Int) from rfl, fixed_ok c4 (by decide) (by decide)] at h4
            subst h4
            dsimp only at h5
            by_cases c5 : 11 + 32 ≤ s.size
            · rw [show (32 : Int) = ((32 : Nat) : Int) from rfl, bytes_ok c5] at h5
              subst h5
              by_cases c6 : 47 ≤ s.size
              · dsimp only at h6
                rw [show ((s.size : Int) - ((4 + 1 + 1 + 1 + 4 + 32 : Nat) : Int) - 4) = ((s.size - 47 : Nat) : Int) by omega, bytes_ok (p := 43) (by omega)] at h6
                subst h6
                refine ⟨fun _ => ?_, fun h' => by omega⟩
                rw [decX, num_one s c1, num_one s c2, num_one s c3, num_four s c4, hl, ext_back, ext_back, show 11 + 32 - 11 = 32 from rfl, show 43 + (s.size - 47) - 43 = s.size - 47 by omega]
              · have e6 : A6.txt = ⟨#[]⟩ := by
                  rw [h6, Nm.asked_zero, Nm.bytesA, if_pos (by simp only; omega)]
                  rfl
                refine ⟨fun h' => by omega, fun _ => .inr ?_⟩
                have z : (s.extract 11 (11 + 32)).size = 32 := by simp; omega
                rw [e6]
                simp only [z]
                show 15 + 32 + 0 ≠ s.size
                omega
            · rw [show (32 : Int) = ((32 : Nat) : Int) from rfl, bytes_end c5] at h5
              exact short h5 (by omega)
          · rw [show (4 : Int) = ((4 : Nat) : Int) from rfl, fixed_end c4 (by decide) (by decide)] at h4
            rw [h4, bad_on ten] at h5
            exact short h5 (by omega)
        · rw [show (1 : Int) = ((1 : Nat) : Int) from rfl, fixed_end c3 (by decide) (by decide)] at h3
          rw [h3, bad_on ten] at h4
          rw [h4, bad_on ten] at h5
          exact short h5 (by omega)
      · rw [show (1 : Int) = ((1 : Nat) : Int) from rfl, fixed_end c2 (by decide) (by decide)] at h2
        rw [h2, bad_on ten] at h3
        rw [h3, bad_on ten] at h4
        rw [h4, bad_on ten] at h5
        exact short h5 (by omega)
    · rw [show (1 : Int) = ((1 : Nat) : Int) from rfl, fixed_end c1 (by decide) (by decide)] at h1
      rw [h1, bad_on ten] at h2
      rw [h2, bad_on ten] at h3
      rw [h3, bad_on ten] at h4
      rw [h4, bad_on ten] at h5
      exact short h5 (by omega)
  · rw [show (4 : Int) = ((4 : Nat) : Int) from rfl, bytes_end c0] at h0
    rw [h0, bad_on ten] at h1
    rw [h1, bad_on ten] at h2
    rw [h2, bad_on ten] at h3
    rw [h3, bad_on ten] at h4
    rw [h4, bad_on ten] at h5
    exact short h5 (by omega)

theorem SK.grown {T : TypeId} {w w' : World} {b : Nat} {k m i long : Int} {id data : ByteArray} (h : SK T w b k m i long id data) {row : Option Nat} (hg : w.grownBy w' row) (hne : some b ≠ row) : SK T w' b k m i long id data := h.of_block (hg.block b h.lt hne)
theorem SK.set5 {T : TypeId} {w : World} {b : Nat} {k m i long : Int} {id data : ByteArray} (h : SK T w b k m i long id data) (d : ByteArray) : SK T (w.setCell ⟨b, 5, none⟩ (.string d)) b k m i long id d := Nm.heap_set_self (u := .string d) h
theorem SK.other {T : TypeId} {w : World} {b : Nat} {k m i long : Int} {id data : ByteArray} (h : SK T w b k m i long id data) {g : Nat} (hne : b ≠ g) (j : Nat) (u : Value) : SK T (w.setCell ⟨g, j, none⟩ u) b k m i long id data := h.grown (Nm.gb_set w g j u) (by simpa using hne)
theorem SK.put {T : TypeId} {w : World} {b : Nat} {k m i long : Int} {id data : ByteArray} (h : SK T w b k m i long id data) (k' m' i' long' : Int) (id' data' : ByteArray) :
    SK T ((((((w.setCell ⟨b, 0, none⟩ (.int .i64 k')).setCell ⟨b, 1, none⟩ (.int .i64 m')).setCell ⟨b, 2, none⟩ (.int .i64 i')).setCell ⟨b, 3, none⟩ (.int .i64 long')).setCell ⟨b, 4, none⟩ (.string id')).setCell ⟨b, 5, none⟩ (.string data')) b k' m' i' long' id' data' :=
  Nm.heap_set_self (u := .string data') (Nm.heap_set_self (u := .string id') (Nm.heap_set_self (u := .int .i64 long') (Nm.heap_set_self (u := .int .i64 i') (Nm.heap_set_self (u := .int .i64 m') (Nm.heap_set_self (u := .int .i64 k') h)))))

theorem below_put6 {B : Nat} {w w1 : World} (hb : Below B w w1) {g : Nat} (hg : B ≤ g) (u0 u1 u2 u3 u4 u5 : Value) :
    Below B w ((((((w1.setCell ⟨g, 0, none⟩ u0).setCell ⟨g, 1, none⟩ u1).setCell ⟨g, 2, none⟩ u2).setCell ⟨g, 3, none⟩ u3).setCell ⟨g, 4, none⟩ u4).setCell ⟨g, 5, none⟩ u5) :=
  (((((hb.setCell (p := ⟨g, 0, none⟩) hg u0).setCell (p := ⟨g, 1, none⟩) hg u1).setCell (p := ⟨g, 2, none⟩) hg u2).setCell (p := ⟨g, 3, none⟩) hg u3).setCell (p := ⟨g, 4, none⟩) hg u4).setCell (p := ⟨g, 5, none⟩) hg u5

set_option maxRecDepth 100000 in
set_option maxHeartbeats 800000 in
theorem sread_any (s : ByteArray) (w : World) (hs : s.size ≤ 1000000) :
    Calls Tryz.prog 31 #[.string s] w fun e w' => ∃ (k m i long : Nat) (id data : ByteArray), e = .returned (.agg #[.int .i64 k, .int .i64 m, .int .i64 i, .int .i64 long, .string id, .string data]) ∧
      (k < 256 ∧ m < 256 ∧ i < 256 ∧ long < 4294967296 ∧ id.size ≤ s.size ∧ data.size ≤ s.size) ∧ (47 ≤ s.size → (⟨k, m, i, long, id, data⟩ : SX) = decX s.data.toList) ∧ (s.size < 47 → id.size ≠ 32 ∨ 15 + id.size + data.size ≠ s.size) ∧ Below w.heap.size w w' := by
  have hs' : s.size ≤ 140737488355328 := by omega
  have X := SK.new 33 w 0 0 0 0 ⟨#[]⟩ ⟨#[]⟩
  obtain ⟨W, hW⟩ : ∃ W, W = w.alloc (.cells #[.int .i64 0, .int .i64 0, .int .i64 0, .int .i64 0, .string ⟨#[]⟩, .string ⟨#[]⟩] 33) := ⟨_, rfl⟩
  have HB : Hid (Below w.heap.size w W) := by rw [hW]; exact below_alloc (Below.refl _ _) _
  rw [← hW] at X
  have HW := hide hW
  have HX := hide X
  have hl := X.lt
  clear X hW
  go_enter Tryz.func31, Tryz.ntmps31
  go_wp2_with fail
  rw [← HW.out]
  refine (Nm.read_any s W).mono ?_
  rintro e w1 ⟨rfl, hR, hb1⟩
  have HX1 := hide (HX.out.below hb1 hl)
  have HB1 := hide (HB.out.trans (hb1.mono HB.out.size))
  obtain ⟨b, hbz⟩ : ∃ b, b = W.heap.size := ⟨_, rfl⟩
  rw [← hbz] at hR hl ⊢
  have HZ := hide hbz
  clear HX HB HW hb1 hbz
  go_wp2_with fail
  have hc := Nm.rBytes_any 4 hR (Nat.zero_le _) hs' (by decide)
  obtain ⟨A0, hA0⟩ : ∃ A, A = Nm.asked 0 (Nm.bytesA s 0 4) := ⟨_, rfl⟩
  have q0 : 0 + A0.long ≤ s.size := by rw [hA0]; exact asked_le (Nat.zero_le _) (Nm.bytesA_ok _ _ _)
  rw [← hA0, Nat.zero_add] at hc
  rw [Nat.zero_add] at q0
  refine Calls.mono hc ?_
  rintro e w2 ⟨rfl, hR2, hg2⟩
  have HA0 := hide hA0
  clear hc hA0 hR
  go_wp2_with fail
  have hc := Nm.rFixed_any 1 hR2 q0 hs' (by decide)
  obtain ⟨A1, hA1⟩ : ∃ A, A = Nm.asked A0.code (Nm.fixedA s A0.long 1) := ⟨_, rfl⟩
  have q1 : A0.long + A1.long ≤ s.size := by rw [hA1]; exact asked_le q0 (Nm.fixedA_ok _ _ _)
  rw [← hA1] at hc
  refine Calls.mono hc ?_
  rintro e w3 ⟨rfl, hR3, hg3⟩
  have HA1 := hide hA1
  have hg3 := Nm.gb_trans hg2 hg3
  clear hc hA1 hR2 hg2
  go_wp2_with fail
  have hc := Nm.rFixed_any 1 hR3 q1 hs' (by decide)
  obtain ⟨A2, hA2⟩ : ∃ A, A = Nm.asked A1.code (Nm.fixedA s (A0.long + A1.long) 1) := ⟨_, rfl⟩
  have q2 : A0.long + A1.long + A2.long ≤ s.size := by rw [hA2]; exact asked_le q1 (Nm.fixedA_ok _ _ _)
  rw [← hA2] at hc
  refine Calls.mono hc ?_
  rintro e w4 ⟨rfl, hR4, hg4⟩
  have HA2 := hide hA2
  have hg4 := Nm.gb_trans hg3 hg4
  clear hc hA2 hR3 hg3
  go_wp2_with fail
  have hc := Nm.rFixed_any 1 hR4 q2 hs' (by decide)
  obtain ⟨A3, hA3⟩ : ∃ A, A = Nm.asked A2.code (Nm.fixedA s (A0.long + A1.long + A2.long) 1) := ⟨_, rfl⟩
  have q3 : A0.long + A1.long + A2.long + A3.long ≤ s.size := by rw [hA3]; exact asked_le q2 (Nm.fixedA_ok _ _ _)
  rw [← hA3] at hc
  refine Calls.mono hc ?_
  rintro e w5 ⟨rfl, hR5, hg5⟩
  have HA3 := hide hA3
  have hg5 := Nm.gb_trans hg4 hg5
  clear hc hA3 hR4 hg4
  go_wp2_with fail
  have hc := Nm.rFixed_any 4 hR5 q3 hs' (by decide)
  obtain ⟨A4, hA4⟩ : ∃ A, A = Nm.asked A3.code (Nm.fixedA s (A0.long + A1.long + A2.long + A3.long) 4) := ⟨_, rfl⟩
  have q4 : A0.long + A1.long + A2.long + A3.long + A4.long ≤ s.size := by rw [hA4]; exact asked_le q3 (Nm.fixedA_ok _ _ _)
  rw [← hA4] at hc
  refine Calls.mono hc ?_
  rintro e w6 ⟨rfl, hR6, hg6⟩
  have HA4 := hide hA4
  have hg6 := Nm.gb_trans hg5 hg6
  clear hc hA4 hR5 hg5
  go_wp2_with fail
  have hc := Nm.rBytes_any 32 hR6 q4 hs' (by decide)
  obtain ⟨A5, hA5⟩ : ∃ A, A = Nm.asked A4.code (Nm.bytesA s (A0.long + A1.long + A2.long + A3.long + A4.long) 32) := ⟨_, rfl⟩
  have q5 : A0.long + A1.long + A2.long + A3.long + A4.long + A5.long ≤ s.size := by rw [hA5]; exact asked_le q4 (Nm.bytesA_ok _ _ _)
  rw [← hA5] at hc
  refine Calls.mono hc ?_
  rintro e w7 ⟨rfl, hR7, hg7⟩
  have HA5 := hide hA5
  have HG7 := hide (Nm.gb_trans hg6 hg7)
  clear hc hA5 hR6 hg6 hg7
  have HX7 := hide (HX1.out.grown HG7.out (by simp; omega))
  obtain ⟨P, hP⟩ : ∃ P, P = A0.long + A1.long + A2.long + A3.long + A4.long + A5.long := ⟨_, rfl⟩
  rw [← hP] at hR7 q5
  have HP := hide hP
  clear hP q0 q1 q2 q3 q4
  have hR8 := hR7.alloc (.cells #[.int .i64 A1.num, .int .i64 A2.num, .int .i64 A3.num, .int .i64 A4.num, .string A5.txt, .string ⟨#[]⟩] 33)
  have X8 := SK.new 33 w7 A1.num A2.num A3.num A4.num A5.txt ⟨#[]⟩
  have HB8 := hide (Nm.gb_alloc HG7.out (.cells #[.int .i64 A1.num, .int .i64 A2.num, .int .i64 A3.num, .int .i64 A4.num, .string A5.txt, .string ⟨#[]⟩] 33))
  have X0 := HX7.out.alloc (.cells #[.int .i64 A1.num, .int .i64 A2.num, .int .i64 A3.num, .int .i64 A4.num, .string A5.txt, .string ⟨#[]⟩] 33)
  have hbl : b < w7.heap.size := hR7.lt
  have b1 : A1.num < 256 := by rw [HA1.out]; exact asked_num (k := 1)
  have b2 : A2.num < 256 := by rw [HA2.out]; exact asked_num (k := 1)
  have b3 : A3.num < 256 := by rw [HA3.out]; exact asked_num (k := 1)
  have b4 : A4.num < 4294967296 := by rw [HA4.out]; exact asked_num (k := 4)
  have b5 : A5.txt.size ≤ s.size := by rw [HA5.out]; exact asked_txt
  have HBD := hide (And.intro b1 (And.intro b2 (And.intro b3 (And.intro b4 b5))))
  clear b1 b2 b3 b4 b5
  go_wp2_with fail
  refine (Nm.left_any hR8 q5 hs').mono ?_
  rintro e w8 ⟨rfl, nd, hw8⟩
  have hR9 : Nm.Rd 157 w8 b s P A5.code := by rw [hw8]; exact hR8.drewN nd
  have X9 : SK 33 w8 w7.heap.size A1.num A2.num A3.num A4.num A5.txt ⟨#[]⟩ := by rw [hw8]; exact X8
  have Z9 : SK 33 w8 w.heap.size 0 0 0 0 ⟨#[]⟩ ⟨#[]⟩ := by rw [hw8]; exact X0
  have HB9 : Hid (w1.grownBy w8 (some b)) := by rw [hw8]; exact Nm.gb_drewN HB8.out nd
  clear hR8 X8 X0 HB8 hR7 HX7 HG7 hw8
  go_wp2_with fail
  have hc := Nm.rBytes_any ((s.size : Int) - (P : Int) - 4) hR9 q5 hs' (by omega)
  obtain ⟨A6, hA6⟩ : ∃ A, A = Nm.asked A5.code (Nm.bytesA s P ((s.size : Int) - (P : Int) - 4)) := ⟨_, rfl⟩
  rw [← hA6] at hc
  refine Calls.mono hc ?_
  rintro e w9 ⟨rfl, hR10, hg10⟩
  have b6 : A6.txt.size ≤ s.size := by rw [hA6]; exact asked_txt
  have HR : Hid ((47 ≤ s.size → (⟨A1.num, A2.num, A3.num, A4.num, A5.txt, A6.txt⟩ : SX) = decX s.data.toList) ∧ (s.size < 47 → A5.txt.size ≠ 32 ∨ 15 + A5.txt.size + A6.txt.size ≠ s.size)) := by
    obtain rfl := HP.out
    exact read_fields HA0.out HA1.out HA2.out HA3.out HA4.out HA5.out hA6
  have HB10 := hide (Nm.gb_trans HB9.out hg10)
  have X10 := X9.grown hg10 (by simp; omega)
  have Z10 := Z9.grown hg10 (by simp; omega)
  have X11 := X10.set5 A6.txt
  have Z11 := Z10.other (show w.heap.size ≠ w7.heap.size by omega) 5 (.string A6.txt)
  clear hc hA6 hR9 X9 Z9 HB9 hg10 hR10 HA0 HA1 HA2 HA3 HA4 HA5 HP q5 HX1
  have f5 := X10.free 5
  have c5 := X10.cell5
  obtain ⟨V, hV⟩ : ∃ V, V = w9.setCell ⟨w7.heap.size, 5, none⟩ (.string A6.txt) := ⟨_, rfl⟩
  have HV := hide hV
  have HB11 : Hid (Below w.heap.size w V) := by
    have h1 := HB1.out
    have h2 := HB10.out
    have hz := HZ.out
    rw [hV]
    exact ⟨h2.os.trans h1.os, h2.tape.trans h1.tape, h2.output.trans h1.output, Nat.le_trans h1.size (by simpa using h2.size), fun k hk => by
      rw [heap_setCell_other w9 ⟨w7.heap.size, 5, none⟩ k _ (by show k ≠ w7.heap.size; omega), h2.block k (Nat.lt_of_lt_of_le hk h1.size) (by simp; omega), h1.block k hk]⟩
  rw [← hV] at X11 Z11
  have c0 := X10.cell0
  have c1 := X10.cell1
  have c2 := X10.cell2
  have c3 := X10.cell3
  have c4 := X10.cell4
  have z0 := Z10.cell0
  have z1 := Z10.cell1
  have z2 := Z10.cell2
  have z3 := Z10.cell3
  have z4 := Z10.cell4
  have z5 := Z10.cell5
  have y0 := Z10.free 0
  have y1 := Z10.free 1
  have y2 := Z10.free 2
  have y3 := Z10.free 3
  have y4 := Z10.free 4
  have y5 := Z10.free 5
  have n1 : ¬ w7.heap.size = w.heap.size := by omega
  have n2 : ¬ w.heap.size = w7.heap.size := by omega
  clear hV HB1 HB10 Z10 HZ
  go_wp2
  rw [← HV.out]
  have G := Z11.put A1.num A2.num A3.num A4.num A5.txt A6.txt
  obtain ⟨b1, b2, b3, b4, b5⟩ := HBD.out
  exact bodyPost_ret (v := .agg #[.int .i64 A1.num, .int .i64 A2.num, .int .i64 A3.num, .int .i64 A4.num, .string A5.txt, .string A6.txt]) (by simp [results, Tryz.results31, go_sem, G.cell0, G.cell1, G.cell2, G.cell3, G.cell4, G.cell5]) rfl
    ⟨A1.num, A2.num, A3.num, A4.num, A5.txt, A6.txt, rfl, ⟨b1, b2, b3, b4, b5, b6⟩, HR.out.1, HR.out.2, below_put6 HB11.out (Nat.le_refl _) _ _ _ _ _ _⟩
end Go.Proofs.YtklaeocnimkboaaGreatDoor

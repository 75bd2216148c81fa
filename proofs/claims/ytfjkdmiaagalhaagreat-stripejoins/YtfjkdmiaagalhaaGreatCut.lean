/-
  The pieces of bytes: the program's cut.
-/
import Derived.Test.YtfjkdmiaagalhaaGreatPlan
import Derived.Test.YtfjkdmiaagalhaaGreatShelf
namespace Go.Proofs.YtfjkdmiaagalhaaGreat
open Go.RowKit Go.Lib

/-! ### Plain -/
def zsB (n : Nat) : ByteArray := ⟨(List.replicate n (0 : UInt8)).toArray⟩
theorem zsB_size (n : Nat) : (zsB n).size = n := by simp [zsB, ByteArray.size]
theorem rep_zero (c : Nat) : (⟨(Lib.repeatL (ByteArray.mk #[0]).data.toList c).toArray⟩ : ByteArray) = zsB c := by
  have := Lib.repeatL_replicate 0 1 c
  rw [zsB]
  congr 2
  simpa using this
/-- The bytes, and bytes 0 behind them. -/
def padB (k : Nat) (s : ByteArray) : ByteArray := s ++ zsB (k * eachN k s.size - s.size)
theorem padB_size {k : Nat} (h : 1 ≤ k) (s : ByteArray) : (padB k s).size = k * eachN k s.size := by
  have := eachN_ge (n := s.size) h
  rw [padB, ByteArray.size_append, zsB_size]
  omega
def pc (k : Nat) (s : ByteArray) (i : Nat) : ByteArray := (padB k s).extract (i * eachN k s.size) ((i + 1) * eachN k s.size)
theorem pc_size {k : Nat} (s : ByteArray) {i : Nat} (hi : i < k) : (pc k s i).size = eachN k s.size := by
  rw [pc, ByteArray.size_extract, padB_size (by omega)]
  have h1 : (i + 1) * eachN k s.size ≤ k * eachN k s.size := Nat.mul_le_mul_right _ hi
  have h2 : (i + 1) * eachN k s.size = i * eachN k s.size + eachN k s.size := by rw [Nat.add_mul, Nat.one_mul]
  omega
theorem eachR_nat (k n : Nat) (h : n ≤ 65536) : eachR k (n : Int) = (((eachN k n : Nat) : Int), 0) := by
  rw [eachR, if_neg (by omega), Int.toNat_natCast]

/-! ### Texts in a block of their own -/
theorem Tryz.infoS : (Tryz.prog.info? 9).map (fun i => (i.zero, i.size, i.bytes)) = some (some (.string ⟨#[]⟩), 1, 16) := by kernel_rfl
def SB (w : World) (g n : Nat) (X : Nat → ByteArray) : Prop := w.heap[g]? = some (.cells (Fd.textsOf X n).toArray 9 (0, 0))
section
variable {w w' : World} {g n : Nat} {X : Nat → ByteArray}
theorem SB.lt (h : SB w g n X) : g < w.heap.size := lt_of_block h
theorem SB.cell (h : SB w g n X) (i : Nat) (hi : i < n) : w.cell? ⟨g, i, none⟩ = some (.string (X i)) := by
  rw [cell_of_row w g i _ _ _ h, List.getElem?_toArray, Fd.textsOf_get hi]
theorem SB.free (h : SB w g n X) (i : Nat) : w.frozen? ⟨g, i, none⟩ = false := frozen_of_row w g i _ _ h
theorem SB.of_block (h : SB w g n X) (hb : w'.heap[g]? = w.heap[g]?) : SB w' g n X := hb.trans h
theorem SB.below (h : SB w g n X) {B : Nat} (hb : Below B w w') (hB : w.heap.size ≤ B) : SB w' g n X := h.of_block (hb.block g (Nat.lt_of_lt_of_le h.lt hB))
theorem texts_congr {X' : Nat → ByteArray} (e : ∀ i, i < n → X i = X' i) : Fd.textsOf X n = Fd.textsOf X' n := by
  apply List.ext_getElem?
  intro i
  by_cases hi : i < n
  · rw [Fd.textsOf_get hi, Fd.textsOf_get hi, e i hi]
  · rw [List.getElem?_eq_none (by rw [Fd.textsOf_length]; omega), List.getElem?_eq_none (by rw [Fd.textsOf_length]; omega)]
theorem SB.congr (h : SB w g n X) {X' : Nat → ByteArray} (e : ∀ i, i < n → X i = X' i) : SB w g n X' := by
  unfold SB at *
  rw [← texts_congr e]
  exact h
theorem SB.set (h : SB w g n X) (i : Nat) (x : ByteArray) : SB (w.setCell ⟨g, i, none⟩ (.string x)) g n (fun j => if j = i then x else X j) := by
  unfold SB at *
  rw [heap_set_list _ h]
  congr 3
  apply List.ext_getElem?
  intro j
  rw [List.getElem?_set, Fd.textsOf_length]
  by_cases hj : j < n
  · rw [Fd.textsOf_get hj, Fd.textsOf_get hj]
    by_cases e : i = j
    · subst e; rw [if_pos rfl, if_pos hj, if_pos rfl]
    · rw [if_neg e, if_neg (fun h => e h.symm)]
  · rw [List.getElem?_eq_none (by rw [Fd.textsOf_length]; omega), List.getElem?_eq_none (by rw [Fd.textsOf_length]; omega)]
    split
    · rw [if_neg (by omega)]
    · rfl
theorem SB.tx (h : SB w g n X) (c : Nat) : Fd.TX w (.slice (some ⟨g, 0, none⟩) n c) n X :=
  ⟨_, c, rfl, .inr ⟨g, 0, rfl, h.lt, fun i hi => by rw [Nat.zero_add]; exact h.cell i hi⟩⟩
theorem made_texts (n : Nat) : madeCells #[.string ⟨#[]⟩] n = (Fd.textsOf (fun _ => ⟨#[]⟩) n).toArray := by
  apply Array.toList_inj.1
  rw [toList_madeCells_one]
  apply List.ext_getElem?
  intro i
  by_cases hi : i < n
  · rw [Fd.textsOf_get hi]; simp [hi]
  · rw [List.getElem?_eq_none (by simp; omega), List.getElem?_eq_none (by rw [Fd.textsOf_length]; omega)]
theorem SB.made (w : World) (n : Nat) : SB (w.alloc (.cells (madeCells #[.string ⟨#[]⟩] n) 9)) w.heap.size n (fun _ => ⟨#[]⟩) := by
  rw [made_texts]
  exact heap_alloc_new w _
end

set_option maxRecDepth 100000 in
set_option maxHeartbeats 1600000 in
theorem cut_any {w : World} {b sb f1 f2 g k m : Nat} (h : PP w b sb f1 f2 g k m) (k1 : 1 ≤ k) (k2 : k ≤ 255) (s : ByteArray) (hs : s.size ≤ 65536) :
    Calls Tryz.prog 26 #[.pointer (some ⟨b, 0, none⟩), .string s] w fun e w' => ∃ q, e = .returned (.slice (some ⟨q, 0, none⟩) k k) ∧ SB w' q k (pc k s) ∧ w.heap.size ≤ q ∧ Below w.heap.size w w' := by
  obtain ⟨e, he⟩ : ∃ e, e = eachN k s.size := ⟨_, rfl⟩
  have he1 : e ≤ s.size := by rw [he]; exact eachN_le k1
  obtain ⟨N, hN⟩ : ∃ N, N = k * e := ⟨_, rfl⟩
  have hN1 : s.size ≤ N := by rw [hN, he]; exact eachN_ge k1
  have hN2 : N ≤ s.size + k - 1 := by rw [hN, he]; exact eachN_up
  obtain ⟨c, hc⟩ : ∃ c, c = N - s.size := ⟨_, rfl⟩
  have hci : (N : Int) - (s.size : Int) = (c : Int) := by omega
  have hNi : (k : Int) * (e : Int) = (N : Int) := by rw [hN, Int.natCast_mul]
  obtain ⟨T, hT⟩ : ∃ T, T = s ++ zsB c := ⟨_, rfl⟩
  have hTs : T.size = N := by rw [hT, ByteArray.size_append, zsB_size]; omega
  have hpc : ∀ i, pc k s i = T.extract (i * e) ((i + 1) * e) := fun i => by rw [pc, padB, ← he, ← hN, ← hc, ← hT]
  have HPC := hide hpc
  have HP := hide h
  have HT := hide hT
  have HE := hide he
  have HN := hide hN
  have c0 := h.pl.cell0
  clear h hpc hT he hN hc
  go_enter Tryz.func26, Tryz.ntmps26
  go_wp2_with fail
  refine (each_any HP.out k1 k2 (s.size : Int)).mono ?_
  rintro e' w1 ⟨rfl, hb1⟩
  rw [eachR_nat k s.size hs, ← HE.out]
  have HP1 := hide (HP.out.below hb1)
  have HB1 := hide hb1
  have c0 := HP1.out.pl.cell0
  clear HP hb1
  go_wp2_with fail
  refine (Tryz.strings_Repeat ⟨#[0]⟩ c w1 (by omega) (by show 1 * c ≤ _; omega)).mono ?_
  rintro e' w2 ⟨rfl, hb2⟩
  rw [rep_zero]
  have HP2 := hide (HP1.out.below hb2)
  have HB2 := hide (below_step HB1.out hb2)
  have c0 := HP2.out.pl.cell0
  clear HP1 HB1 hb2
  have hzs := zsB_size c
  have hmk : ∀ w : World, _ := fun w => run_make_row' (P := Tryz.prog) 43 9 (.string ⟨#[]⟩) 16 Tryz.underlying43 Tryz.infoS rfl .i64 .i64 k (by omega) (by omega) w
  go_wp2
  rw [← HT.out]
  have HKN := hide (And.intro k1 (And.intro k2 (And.intro hs (And.intro hN1 hN2))))
  clear hci hNi hzs hmk c0 hN1 hN2 hs he1 k1
  go_loopw [35] (fun z wr => ∃ i : Nat, i ≤ k ∧ z = .int .i64 i ∧ SB wr w2.heap.size k (fun j => if j < i then pc k s j else ⟨#[]⟩) ∧ Below w.heap.size w wr) (fun z _ => k - (RowKit.intOf z).toNat)
  case atStart => exact ⟨0, Nat.zero_le _, rfl, (SB.made w2 k).congr (fun i hi => by simp), below_alloc HB2.out _⟩
  case round =>
    obtain ⟨i, hi, rfl, hSB, hB⟩ := hrel
    by_cases hlt : i < k
    · obtain ⟨x, hx⟩ : ∃ x, x = i * e := ⟨_, rfl⟩
      have hx2 : (i + 1) * e = x + e := by rw [Nat.add_mul, Nat.one_mul, hx]
      have hm : (i : Int) * (e : Int) = (x : Int) := by rw [← Int.natCast_mul, hx]
      have hm2 : ((i : Int) + 1) * (e : Int) = (x : Int) + (e : Int) := by rw [Int.add_mul, Int.one_mul, hm]
      have hxe : x + e ≤ N := by rw [← hx2, HN.out]; exact Nat.mul_le_mul_right _ hlt
      have hNs : N ≤ 66000 := by have := HKN.out; omega
      have hset := hSB.set i (T.extract x (x + e))
      have hbs : Below w.heap.size w (wr.setCell ⟨w2.heap.size, i, none⟩ (.string (T.extract x (x + e)))) := below_gb hB (gb_set _ _ _ _) HB2.out.size hB.size
      have HS1 : Hid (SB (wr.setCell ⟨w2.heap.size, i, none⟩ (.string (T.extract x (x + e)))) w2.heap.size k (fun j => if j < i + 1 then pc k s j else ⟨#[]⟩)) := hset.congr (fun j hj => by
        by_cases e1 : j = i
        · subst e1; rw [if_pos rfl, if_pos (by omega), HPC.out, ← hx, hx2]
        · rw [if_neg e1]
          by_cases e2 : j < i
          · rw [if_pos e2, if_pos (by omega)]
          · rw [if_neg e2, if_neg (by omega)])
      have HBS := hide hbs
      have b1 : (i : Int) < (k : Int) := by omega
      have b0 : (0 : Int) ≤ (i : Int) := by omega
      have q1 := hSB.cell i hlt
      have q2 := hSB.free i
      clear hset hbs hSB hB hx hx2 HKN
      go_wp2
      exact ⟨⟨i + 1, by omega, by go_num, HS1.out, HBS.out⟩, by simp [RowKit.intOf]; omega⟩
    · obtain rfl : i = k := by omega
      have HS1 := hide (hSB.congr (X' := pc i s) (fun j hj => if_pos hj))
      have HBS := hide hB
      clear hSB hB
      go_wp2
      go_ret
      exact ⟨_, rfl, HS1.out, HB2.out.size, HBS.out⟩
end Go.Proofs.YtfjkdmiaagalhaaGreat

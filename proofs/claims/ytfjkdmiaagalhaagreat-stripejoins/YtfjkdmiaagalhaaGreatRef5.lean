/-
  The document's own pieces and shards.
-/
import Derived.Test.YtfjkdmiaagalhaaGreatSplit
import Derived.Lib.AppendZeros
import Derived.Maps.AppendAt
namespace Go.Proofs.YtfjkdmiaagalhaaGreat
open Go.RowKit Go.Lib

/-! ### A list of texts in a block of one's own -/
structure IS (B : Nat) (v : Value) (n : Nat) (X : Nat → ByteArray) (w : World) : Prop where
  own : w.ownsRow B 9 1 v n (Fd.textsOf X n)
section
variable {B n : Nat} {v : Value} {X : Nat → ByteArray} {w w' : World}
theorem IS.nil (B : Nat) (w : World) (X : Nat → ByteArray) : IS B (.slice none 0 0) 0 X w := ⟨World.ownsRow_nil w B 9 1⟩
theorem IS.empty (hB : B ≤ w.heap.size) (X : Nat → ByteArray) : IS B (.slice (some ⟨w.heap.size, 0, none⟩) 0 0) 0 X (w.alloc (.cells #[] 9)) :=
  ⟨rfl, .inr ⟨w.heap.size, 0, #[], rfl, hB, heap_alloc_new w _, Nat.le_refl _, Nat.zero_le _, rfl, rfl⟩⟩
theorem IS.tx (h : IS B v n X w) : Fd.TX w v n X := by
  obtain ⟨h1, ⟨rfl, h2⟩ | ⟨g, cap, cur, rfl, hB, hg, hn, _, hs, ht⟩⟩ := h.own
  · subst h2; exact ⟨_, _, rfl, .inl rfl⟩
  · refine ⟨_, cap, rfl, .inr ⟨g, 0, rfl, lt_of_block hg, fun j hj => ?_⟩⟩
    have e := Fd.textsOf_get (X := X) hj
    rw [← ht, Nat.mul_one, List.getElem?_take, if_pos hj] at e
    rw [Nat.zero_add, cell_of_row w g j _ _ _ hg]
    simpa using e
theorem IS.shp (h : IS B v n X w) : ∃ a c, v = .slice a n c := by
  obtain ⟨a, c, e, _⟩ := h.tx
  exact ⟨a, c, e⟩
theorem IS.keep (h : IS B v n X w) (hb : Below w.heap.size w w') : IS B v n X w' := by
  refine ⟨h.own.1, ?_⟩
  rcases h.own.2 with h2 | ⟨g, cap, cur, e, hB, hg, r⟩
  · exact .inl h2
  · exact .inr ⟨g, cap, cur, e, hB, (hb.block g (lt_of_block hg)).trans hg, r⟩
theorem IS.lt (h : IS B v n X w) (b : Nat) (hb : v.ownBlock = some b) : B ≤ b ∧ b < w.heap.size := by
  obtain ⟨h1, ⟨rfl, h2⟩ | ⟨g, cap, cur, rfl, hB, hg, _⟩⟩ := h.own
  · simp [Value.ownBlock] at hb
  · simp only [Value.ownBlock, Option.some.injEq] at hb
    subst hb
    exact ⟨hB, lt_of_block hg⟩
def catX (n : Nat) (X Y : Nat → ByteArray) : Nat → ByteArray := fun t => if t < n then X t else Y (t - n)
theorem texts_cat (n m : Nat) (X Y : Nat → ByteArray) : Fd.textsOf X n ++ Fd.textsOf Y m = Fd.textsOf (catX n X Y) (n + m) := by
  apply List.ext_getElem?
  intro i
  by_cases h1 : i < n
  · rw [List.getElem?_append_left (by rw [Fd.textsOf_length]; exact h1), Fd.textsOf_get h1, Fd.textsOf_get (by omega), catX, if_pos h1]
  · rw [List.getElem?_append_right (by rw [Fd.textsOf_length]; omega), Fd.textsOf_length]
    by_cases h2 : i < n + m
    · rw [Fd.textsOf_get (by omega), Fd.textsOf_get h2, catX, if_neg h1]
    · rw [List.getElem?_eq_none (by rw [Fd.textsOf_length]; omega), List.getElem?_eq_none (by rw [Fd.textsOf_length]; omega)]
theorem IS.congr (h : IS B v n X w) {X' : Nat → ByteArray} (e : ∀ i, i < n → X i = X' i) : IS B v n X' w := ⟨by rw [← texts_congr e]; exact h.own⟩
/-- A list of texts that is not empty, appended. -/
theorem IS.app (h : IS B v n X w) {m b o c : Nat} {Y : Nat → ByteArray} (hl : ∀ j, j < m → w.cell? ⟨b, o + j, none⟩ = some (.string (Y j))) (hb : n + m ≤ 100000) (hB : B ≤ w.heap.size) :
    ∃ a' c' w', (Builtin.append_ #[43, 43] 43 #[v, .slice (some ⟨b, o, none⟩) m c]).run Tryz.prog w = .ok (.slice a' (n + m) c') w' ∧ IS B (.slice a' (n + m) c') (n + m) (catX n X Y) w' ∧ w.grownBy w' v.ownBlock := by
  obtain ⟨i0, hi, hz0, hz1, hz2⟩ := info_parts Tryz.infoS
  obtain ⟨v', w', h1, h2, h3, _⟩ := run_append_own_at (P := Tryz.prog) w B 43 43 9 i0 (.string ⟨#[]⟩) 1 16 Tryz.underlying43 hi hz0 hz1 hz2 rfl (by decide) v n (Fd.textsOf X n) h.own ⟨b, o, none⟩ m c (Fd.textsOf Y m) (by rw [Fd.textsOf_length, Nat.mul_one]) (fun j u hj => by
      have hj' : j < m := by have := (List.getElem?_eq_some_iff.1 hj).1; rwa [Fd.textsOf_length] at this
      rw [Fd.textsOf_get hj'] at hj
      cases hj
      rw [Addr.add_mid]
      exact hl j hj') (Fd.textsOf_one Y m) (by unfold maxLen; omega) (by omega) hB
  have hI : IS B v' (n + m) (catX n X Y) w' := ⟨by rw [← texts_cat]; exact h2⟩
  obtain ⟨a', c', rfl⟩ := hI.shp
  exact ⟨a', c', w', h1, hI, h3⟩
/-- One text more. -/
theorem IS.one (h : IS B v n X w) (x : ByteArray) (hb : n + 1 ≤ 100000) (hB : B ≤ w.heap.size) :
    ∃ a' c' w', (Builtin.append_ #[43, 43] 43 #[v, .slice (some ⟨w.heap.size, 0, none⟩) 1 1]).run Tryz.prog (w.alloc (.cells #[.string x] 9)) = .ok (.slice a' (n + 1) c') w' ∧ IS B (.slice a' (n + 1) c') (n + 1) (fun t => if t < n then X t else x) w' ∧ (∀ w0, Below B w0 w → Below B w0 w') := by
  have hal : Below w.heap.size w (w.alloc (.cells #[.string x] 9)) := below_alloc (Below.refl _ _) _
  have h' := h.keep hal
  obtain ⟨a', c', w', h1, h2, h3⟩ := h'.app (m := 1) (b := w.heap.size) (o := 0) (c := 1) (Y := fun _ => x) (fun j hj => by
    obtain rfl : j = 0 := by omega
    rw [cell_of_row _ _ _ _ _ _ (heap_alloc_new w _)]; rfl) hb (by simp; omega)
  refine ⟨a', c', w', h1, h2, fun w0 hb0 => ?_⟩
  exact (hb0.trans (hal.mono hB)).grown h3 (by simp; omega) (fun k hk => (h'.lt k hk).1)
end

set_option maxRecDepth 100000 in
theorem rrow_any {w : World} {b g k m i : Nat} (h : RQ w b g k m) (k1 : 1 ≤ k) (km : k + m ≤ 255) (hi : i < k + m) :
    Calls Tryz.prog 53 #[.pointer (some ⟨b, 0, none⟩), .int .i64 i] w fun e w' => e = .returned (.slice (some ⟨g, i * k, none⟩) k ((k + m) * k - i * k)) ∧ Below w.heap.size w w' := by
  have hrow : (i + 1) * k ≤ (k + m) * k := Nat.mul_le_mul_right _ hi
  have hcap : (k + m) * k ≤ 255 * 255 := Nat.mul_le_mul km (by omega)
  have c0 := h.pl.cell0
  have c4 := h.pl.cell4
  obtain ⟨N, hN⟩ : ∃ N, N = (k + m) * k := ⟨_, rfl⟩
  obtain ⟨x, hx⟩ : ∃ x, x = i * k := ⟨_, rfl⟩
  have hx2 : (i + 1) * k = x + k := by rw [Nat.add_mul, Nat.one_mul, hx]
  have hm : (i : Int) * (k : Int) = (x : Int) := by rw [← Int.natCast_mul, hx]
  have hm2 : ((i : Int) + 1) * (k : Int) = (x : Int) + (k : Int) := by rw [Int.add_mul, Int.one_mul, hm]
  rw [← hN] at c4 hcap hrow ⊢
  rw [hx2] at hrow
  rw [← hx]
  clear h hx hx2 hN
  have b3 : ¬ (N = x) := by omega
  go_enter Tryz.func53, Tryz.ntmps53
  go_wp2
  go_quiet (fail)
  go_wp2
  go_ret
  exact ⟨by rw [show x + k - x = k by omega]; rfl, below_drew (Below.refl _ _) _⟩

theorem made_zeros (w : World) (c : Nat) : Fd.BR (w.alloc (.cells (madeCells #[.int .u8 0] c) 5)) w.heap.size (List.replicate c 0) := by
  refine ⟨[], (0, 0), ?_, fun j _ => frozen_of_row _ _ _ _ _ (heap_alloc_new w _)⟩
  rw [heap_alloc_new w _]
  congr 2
  apply Array.toList_inj.1
  rw [toList_madeCells_one]
  apply List.ext_getElem?
  intro i
  by_cases hi : i < c
  · simp [byteCells, hi]
  · rw [List.getElem?_eq_none (by simp; omega), List.getElem?_eq_none (by simp [byteCells]; omega)]
theorem made_conv (w : World) (c : Nat) : (convert 105 9 (.slice (some ⟨w.heap.size, 0, none⟩) c c)).run Tryz.prog (w.alloc (.cells (madeCells #[.int .u8 0] c) 5)) = .ok (.string (zsB c)) (w.alloc (.cells (madeCells #[.int .u8 0] c) 5)) := by
  have := (made_zeros w c).str_all c c (by simp)
  simpa [Fd.strOf, zsB] using this

set_option maxRecDepth 100000 in
set_option maxHeartbeats 1600000 in
theorem rpieces_any {w : World} {b g k m : Nat} (h : RQ w b g k m) (k1 : 1 ≤ k) (k2 : k ≤ 255) (s : ByteArray) (hs : s.size ≤ 65536) :
    Calls Tryz.prog 52 #[.pointer (some ⟨b, 0, none⟩), .string s] w fun e w' => ∃ a c, e = .returned (.slice a k c) ∧ IS w.heap.size (.slice a k c) k (pc k s) w' ∧ Below w.heap.size w w' := by
  obtain ⟨e, he⟩ : ∃ e, e = eachN k s.size := ⟨_, rfl⟩
  have he1 : e ≤ s.size := by rw [he]; exact eachN_le k1
  obtain ⟨N, hN⟩ : ∃ N, N = k * e := ⟨_, rfl⟩
  have hN1 : s.size ≤ N := by rw [hN, he]; exact eachN_ge k1
  have hN2 : N ≤ s.size + k - 1 := by rw [hN, he]; exact eachN_up
  obtain ⟨c, hc⟩ : ∃ c, c = N - s.size := ⟨_, rfl⟩
  have hci : (N : Int) - (s.size : Int) = (c : Int) := by omega
  have hNi : (k : Int) * (e : Int) = (N : Int) := by rw [hN, Int.natCast_mul]
  obtain ⟨T, hT⟩ : ∃ T, T = s ++ zsB c := ⟨_, rfl⟩
  have hTs : T.size = N := by rw [hT, ByteArray.size_append, zsB_size]; omega
  have hpc : ∀ i, pc k s i = T.extract (i * e) ((i + 1) * e) := fun i => by rw [pc, padB, ← he, ← hN, ← hc, ← hT]
  have HPC := hide hpc
  have HP := hide h
  have HT := hide hT
  have HE := hide he
  have HN := hide hN
  have c0 := h.pl.cell0
  have hcb : c ≤ 255 := by omega
  clear h hpc hT he hN hc
  go_enter Tryz.func52, Tryz.ntmps52
  go_wp2_with fail
  refine (size_any k1 k2 hs).mono ?_
  rintro e' w1 ⟨rfl, hw1⟩
  subst w1
  rw [← HE.out]
  have hzs := zsB_size c
  have hmk : ∀ w : World, _ := fun w => run_make_row' (P := Tryz.prog) 105 5 (.int .u8 0) 1 Tryz.underlying105 Fd.Tryz.info5 rfl .i64 .i64 c (by omega) (by omega) w
  have hcv := made_conv w c
  go_wp2
  rw [← HT.out]
  have HKN := hide (And.intro k1 (And.intro k2 (And.intro hs (And.intro hN1 hN2))))
  have HB1 := hide (below_alloc (Below.refl w.heap.size w) (.cells (madeCells #[.int .u8 0] c) 5))
  clear hci hNi hzs hmk hcv c0 hN1 hN2 hs he1 k1
  go_loopw [6, 7] (fun v z wr => ∃ i : Nat, i ≤ k ∧ z = .int .i64 i ∧ IS w.heap.size v i (pc k s) wr ∧ Below w.heap.size w wr) (fun _ z _ => k - (RowKit.intOf z).toNat)
  case atStart => exact ⟨0, Nat.zero_le _, rfl, IS.nil _ _ _, HB1.out⟩
  case round =>
    obtain ⟨i, hi, rfl, hI, hB⟩ := hrel
    clear HB1
    have c0 := (HP.out.below hB).pl.cell0
    by_cases hlt : i < k
    · obtain ⟨x, hx⟩ : ∃ x, x = i * e := ⟨_, rfl⟩
      have hx2 : (i + 1) * e = x + e := by rw [Nat.add_mul, Nat.one_mul, hx]
      have hm : (i : Int) * (e : Int) = (x : Int) := by rw [← Int.natCast_mul, hx]
      have hm2 : ((i : Int) + 1) * (e : Int) = (x : Int) + (e : Int) := by rw [Int.add_mul, Int.one_mul, hm]
      have hxe : x + e ≤ N := by rw [← hx2, HN.out]; exact Nat.mul_le_mul_right _ hlt
      have hNs : N ≤ 66000 := by have := HKN.out; omega
      obtain ⟨a', c', w', hr, hI', hBW⟩ := hI.one (T.extract x (x + e)) (by have := HKN.out; omega) hB.size
      have HI := hide (hI'.congr (X' := pc k s) (fun j hj => by
        by_cases e1 : j < i
        · rw [if_pos e1]
        · obtain rfl : j = i := by omega
          rw [if_neg e1, HPC.out, ← hx, hx2]))
      have HB' := hide (hBW w hB)
      have b1 : (i : Int) < (k : Int) := by omega
      have b0 : (0 : Int) ≤ (i : Int) := by omega
      clear hI hB hI' hBW hx hx2 HKN
      go_wp2_with (at_builtin; refine Lib.wpList_append_run _ rfl _ _ _ _ rfl _ _ rfl rfl _ _ hr ?_)
      exact ⟨⟨i + 1, by omega, by go_num, HI.out, HB'.out⟩, by simp [RowKit.intOf]; omega⟩
    · obtain rfl : i = k := by omega
      have HI := hide hI
      have HB' := hide hB
      obtain ⟨a', c', rfl⟩ := hI.shp
      have b1 : ¬ (i : Int) < (i : Int) := by omega
      clear hI hB
      go_wp2
      go_ret
      exact ⟨_, _, rfl, HI.out, HB'.out⟩
end Go.Proofs.YtfjkdmiaagalhaaGreat

/-
  Gear, in plain terms: the gear of a byte, how long the first chunk is, the chunks.
-/
import Derived.Maps.Views
import Derived.Lib.Join
namespace Go.Proofs.YtdmlhkphdolbeaaDoor

/-- The gear of a byte. -/
def gm (b : Nat) : Nat :=
  ((((b + 1) * 11400714819323198485 % 18446744073709551616) ^^^ ((b + 1) * 11400714819323198485 % 18446744073709551616) / 2147483648) * 13787848793156543929 % 18446744073709551616) ^^^
    ((((b + 1) * 11400714819323198485 % 18446744073709551616) ^^^ ((b + 1) * 11400714819323198485 % 18446744073709551616) / 2147483648) * 13787848793156543929 % 18446744073709551616) / 536870912
theorem gm_lt (b : Nat) : gm b < 18446744073709551616 := by
  have h : ∀ x y : Nat, (x % 18446744073709551616) ^^^ (x % 18446744073709551616) / y < 18446744073709551616 := fun x y =>
    Nat.xor_lt_two_pow (n := 64) (Nat.mod_lt _ (by decide)) (Nat.lt_of_le_of_lt (Nat.div_le_self _ _) (Nat.mod_lt _ (by decide)))
  exact h _ _
/-- The gear undone. -/
def um (g : Nat) : Nat :=
  (((((g ^^^ g / 536870912 ^^^ g / 288230376151711744) * 10871156337175269513) % 18446744073709551616) ^^^ ((g ^^^ g / 536870912 ^^^ g / 288230376151711744) * 10871156337175269513) % 18446744073709551616 / 2147483648 ^^^ ((g ^^^ g / 536870912 ^^^ g / 288230376151711744) * 10871156337175269513) % 18446744073709551616 / 4611686018427387904) * 17428512612931826493) % 18446744073709551616
theorem um_gm : (List.range 256).all (fun b => um (gm b) == b + 1) = true := by decide +kernel
theorem gm_inj {b c : Nat} (hb : b < 256) (hc : c < 256) (h : gm b = gm c) : b = c := by
  have h1 := List.all_eq_true.1 um_gm b (List.mem_range.2 hb)
  have h2 := List.all_eq_true.1 um_gm c (List.mem_range.2 hc)
  rw [beq_iff_eq] at h1 h2
  rw [h] at h1
  omega
/-- The gear of the byte at i. -/
def gs (s : ByteArray) (i : Nat) : Nat := if h : i < s.size then gm (s[i]'h).toNat else 0
theorem gs_at {s : ByteArray} {i : Nat} (h : i < s.size) : gs s i = gm (s[i]'h).toNat := dif_pos h
/-- The look for a cut. -/
def lp (g : Nat → Nat) (B : Nat) : Nat → Nat → Nat → Nat
  | 0, i, _ => i
  | n + 1, i, h => if ((2 * h + g i) % 18446744073709551616) / 2 ^ (64 - B) = 0 then i + 1 else lp g B n (i + 1) ((2 * h + g i) % 18446744073709551616)
theorem lp_le (g : Nat → Nat) (B : Nat) : ∀ n i h, i ≤ lp g B n i h ∧ lp g B n i h ≤ i + n
  | 0, i, h => by simp [lp]
  | n + 1, i, h => by
    rw [lp]
    split
    · omega
    · have := lp_le g B n (i + 1) ((2 * h + g i) % 18446744073709551616)
      omega
theorem lp_pos (g : Nat → Nat) (B : Nat) {n : Nat} (i h : Nat) (h0 : 0 < n) : i + 1 ≤ lp g B n i h := by
  cases n with
  | zero => omega
  | succ n =>
    rw [lp]
    split
    · omega
    · exact (lp_le g B n (i + 1) _).1
theorem lp_congr {g g' : Nat → Nat} (B : Nat) : ∀ n i h, (∀ j, i ≤ j → j < i + n → g j = g' j) → lp g B n i h = lp g' B n i h
  | 0, _, _, _ => rfl
  | n + 1, i, h, hg => by
    rw [lp, lp, hg i (Nat.le_refl _) (by omega), lp_congr B n (i + 1) _ fun j h1 h2 => hg j (by omega) (by omega)]
theorem lp_more (g : Nat → Nat) (B m : Nat) : ∀ n i h, lp g B n i h < i + n → lp g B (n + m) i h = lp g B n i h
  | 0, i, h, hl => by simp [lp] at hl
  | n + 1, i, h, hl => by
    rw [show n + 1 + m = (n + m) + 1 by omega, lp, lp]
    rw [lp] at hl
    split
    · rfl
    · rename_i hc
      rw [if_neg hc] at hl
      exact lp_more g B m n (i + 1) _ (by omega)
/-- How long the first chunk is. -/
def fl (L B M : Nat) (s : ByteArray) : Nat := if s.size ≤ L then s.size else lp (gs s) B (min s.size M - (L - 1)) (L - 1) 0
/-- A setup that may be. -/
structure OkX (L B M : Nat) : Prop where
  l1 : 1 ≤ L
  l2 : L ≤ 4096
  b1 : 1 ≤ B
  b2 : B ≤ 16
  m1 : L ≤ M
  m2 : M ≤ 16384
section
variable {L B M : Nat}
theorem fl_le (o : OkX L B M) (s : ByteArray) : fl L B M s ≤ s.size := by
  have := o.l1; have := o.m1
  rw [fl]
  split
  · exact Nat.le_refl _
  · have := (lp_le (gs s) B (min s.size M - (L - 1)) (L - 1) 0).2
    omega
theorem fl_pos (o : OkX L B M) {s : ByteArray} (h : 0 < s.size) : 1 ≤ fl L B M s := by
  have := o.l1
  rw [fl]
  split
  · exact h
  · have := lp_pos (gs s) B (n := min s.size M - (L - 1)) (L - 1) 0 (by have := o.m1; omega)
    omega
theorem fl_max (o : OkX L B M) (s : ByteArray) : fl L B M s ≤ M := by
  have := o.l1; have := o.m1
  rw [fl]
  split
  · omega
  · have := (lp_le (gs s) B (min s.size M - (L - 1)) (L - 1) 0).2
    omega
theorem fl_min (o : OkX L B M) (s : ByteArray) (h : fl L B M s < L) : fl L B M s = s.size := by
  have := o.l1; have := o.m1
  rw [fl] at h ⊢
  split
  · rfl
  · rename_i hs
    rw [if_neg hs] at h
    have := lp_pos (gs s) B (n := min s.size M - (L - 1)) (L - 1) 0 (by omega)
    omega
theorem gs_app {s : ByteArray} (t : ByteArray) {i : Nat} (h : i < s.size) : gs (s ++ t) i = gs s i := by
  rw [gs_at h, gs_at (by rw [ByteArray.size_append]; omega), ByteArray.getElem_append_left h]
theorem fl_app (o : OkX L B M) (s t : ByteArray) (h : fl L B M s < s.size) : fl L B M (s ++ t) = fl L B M s := by
  have := o.l1; have := o.m1
  rw [fl] at h
  by_cases hs : s.size ≤ L
  · rw [if_pos hs] at h; omega
  rw [if_neg hs] at h
  rw [fl, fl, if_neg hs, if_neg (by rw [ByteArray.size_append]; omega), ByteArray.size_append]
  by_cases hM : s.size ≤ M
  · rw [show min s.size M - (L - 1) = s.size - (L - 1) by omega] at h ⊢
    rw [show min (s.size + t.size) M - (L - 1) = (s.size - (L - 1)) + (min (s.size + t.size) M - s.size) by omega]
    rw [← lp_congr (g := gs (s ++ t)) B _ (L - 1) 0 (fun j h1 h2 => gs_app t (by omega))] at h ⊢
    exact lp_more _ _ _ _ _ _ (by omega)
  · rw [show min s.size M - (L - 1) = M - (L - 1) by omega, show min (s.size + t.size) M - (L - 1) = M - (L - 1) by omega]
    exact lp_congr B _ _ _ fun j h1 h2 => gs_app t (by omega)

/-! ### Bytes -/
theorem ba_ext {s t : ByteArray} (h : s.data.toList = t.data.toList) : s = t := ByteArray.ext (Array.toList_inj.1 h)
theorem ex_list (s : ByteArray) (a b : Nat) : (s.extract a b).data.toList = (s.data.toList.drop a).take (b - a) := by
  rw [ByteArray.data_extract, Array.toList_extract, List.extract_eq_take_drop]
theorem ex_all (s : ByteArray) : s.extract 0 s.size = s := ba_ext (by
  have e : s.size = s.data.toList.length := by simp
  rw [ex_list, e, List.drop_zero, Nat.sub_zero, List.take_of_length_le (Nat.le_refl _)])
theorem ex_rest (s : ByteArray) (p n : Nat) : (s.extract p s.size).extract n (s.extract p s.size).size = s.extract (p + n) s.size := ba_ext (by
  simp only [ex_list, ByteArray.size_extract, List.drop_take, List.drop_drop, List.take_take]
  have e : s.size = s.data.toList.length := by simp
  rw [e]
  rw [List.take_of_length_le (by simp; omega), List.take_of_length_le (by simp)])
theorem ex_front {s : ByteArray} (p n : Nat) : (s.extract p s.size).extract 0 n = s.extract p (p + n) := ba_ext (by
  simp only [ex_list, List.drop_zero, List.take_take, Nat.sub_zero]
  have e : s.size = s.data.toList.length := by simp
  rw [e, show p + n - p = n by omega]
  by_cases h : n ≤ s.data.toList.length - p
  · rw [Nat.min_eq_left h]
  · rw [List.take_of_length_le (by simp; omega), List.take_of_length_le (by simp at h ⊢; omega)])
theorem app_front {s : ByteArray} (t : ByteArray) {n : Nat} (h : n ≤ s.size) : (s ++ t).extract 0 n = s.extract 0 n := ba_ext (by
  simp only [ex_list, ByteArray.data_append, Array.toList_append, List.drop_zero, Nat.sub_zero]
  rw [List.take_append_of_le_length (by simpa using h)])
theorem app_rest {s : ByteArray} (t : ByteArray) {n : Nat} (h : n ≤ s.size) : (s ++ t).extract n (s ++ t).size = s.extract n s.size ++ t := ba_ext (by
  simp only [ex_list, ByteArray.data_append, Array.toList_append, ByteArray.size_append]
  have e : s.size = s.data.toList.length := by simp
  have e2 : t.size = t.data.toList.length := by simp
  rw [List.drop_append_of_le_length (by omega), List.take_of_length_le (by simp; omega), List.take_of_length_le (by simp)])
theorem app_back (q : ByteArray) {s : ByteArray} {n : Nat} (h : n ≤ s.size) : (q ++ s).extract ((q ++ s).size - n) (q ++ s).size = s.extract (s.size - n) s.size := ba_ext (by
  simp only [ex_list, ByteArray.data_append, Array.toList_append, ByteArray.size_append]
  have e : s.size = s.data.toList.length := by simp
  have e2 : q.size = q.data.toList.length := by simp
  rw [show q.size + s.size - n = q.data.toList.length + (s.size - n) by omega, List.drop_append, List.drop_eq_nil_of_le (by omega), List.nil_append]
  rw [show q.data.toList.length + (s.size - n) - q.data.toList.length = s.size - n by omega]
  rw [List.take_of_length_le (by simp; omega), List.take_of_length_le (by simp)])

/-! ### The chunks -/
def cutN (L B M : Nat) : Nat → ByteArray → List ByteArray
  | 0, _ => []
  | n + 1, s => if s.size = 0 then [] else s.extract 0 (fl L B M s) :: cutN L B M n (s.extract (fl L B M s) s.size)
def cuts (L B M : Nat) (s : ByteArray) : List ByteArray := cutN L B M s.size s
theorem cutN_enough (o : OkX L B M) : ∀ (n m : Nat) (s : ByteArray), s.size ≤ n → s.size ≤ m → cutN L B M n s = cutN L B M m s
  | 0, 0, _, _, _ => rfl
  | 0, m + 1, s, h, _ => by rw [cutN, cutN, if_pos (by omega)]
  | n + 1, 0, s, _, h => by rw [cutN, cutN, if_pos (by omega)]
  | n + 1, m + 1, s, h1, h2 => by
    rw [cutN, cutN]
    by_cases h : s.size = 0
    · rw [if_pos h, if_pos h]
    · rw [if_neg h, if_neg h]
      have := fl_pos o (s := s) (by omega)
      rw [cutN_enough o n m _ (by rw [ByteArray.size_extract]; omega) (by rw [ByteArray.size_extract]; omega)]
theorem cuts_nil {s : ByteArray} (h : s.size = 0) : cuts L B M s = [] := by rw [cuts, h]; rfl
theorem cuts_cons (o : OkX L B M) {s : ByteArray} (h : 0 < s.size) : cuts L B M s = s.extract 0 (fl L B M s) :: cuts L B M (s.extract (fl L B M s) s.size) := by
  rw [cuts, cutN_enough o s.size (s.size - 1 + 1) s (Nat.le_refl _) (by omega), cutN, if_neg (by omega), cuts]
  have := fl_pos o h
  congr 1
  exact cutN_enough o _ _ _ (by rw [ByteArray.size_extract]; omega) (Nat.le_refl _)
theorem cutN_len : ∀ (n : Nat) (s : ByteArray), (cutN L B M n s).length ≤ n
  | 0, _ => by simp [cutN]
  | n + 1, s => by
    rw [cutN]
    split
    · simp
    · have := cutN_len n (s.extract (fl L B M s) s.size)
      simp only [List.length_cons]
      omega
theorem cuts_len (s : ByteArray) : (cuts L B M s).length ≤ s.size := cutN_len _ _
/-- One chunk on. -/
theorem step_at (o : OkX L B M) {s c : ByteArray} {p k : Nat} (hp : p ≤ s.size) (hd : (cuts L B M s).drop k = cuts L B M (s.extract p s.size)) (hc : (cuts L B M s)[k]? = some c) :
    c.size = fl L B M (s.extract p s.size) ∧ 0 < c.size ∧ p + c.size ≤ s.size ∧ (cuts L B M s).drop (k + 1) = cuts L B M (s.extract (p + c.size) s.size) ∧ c.size ≤ M ∧ (c.size < L → p + c.size = s.size) := by
  have hk : k < (cuts L B M s).length := (List.getElem?_eq_some_iff.1 hc).1
  have hr : 0 < (s.extract p s.size).size := by
    apply Nat.pos_of_ne_zero
    intro h
    rw [cuts_nil h, List.drop_eq_nil_iff] at hd
    omega
  have hsz : (s.extract p s.size).size = s.size - p := by rw [ByteArray.size_extract]; omega
  have hf := fl_le o (s.extract p s.size)
  have hf0 := fl_pos o hr
  rw [List.drop_eq_getElem_cons hk, cuts_cons o hr] at hd
  injection hd with h1 h2
  have hc2 : c = (s.extract p s.size).extract 0 (fl L B M (s.extract p s.size)) := by
    rw [← h1]
    exact (Option.some.inj ((List.getElem?_eq_getElem hk).symm.trans hc)).symm
  have hcs : c.size = fl L B M (s.extract p s.size) := by
    rw [hc2, ByteArray.size_extract]
    omega
  refine ⟨hcs, by omega, by omega, ?_, by rw [hcs]; exact fl_max o _, fun h => ?_⟩
  · rw [h2, ex_rest, hcs]
  · have := fl_min o (s.extract p s.size) (by omega)
    omega
theorem end_at (o : OkX L B M) {s : ByteArray} {p k : Nat} (hp : p ≤ s.size) (hd : (cuts L B M s).drop k = cuts L B M (s.extract p s.size)) (hk : (cuts L B M s).length ≤ k) : p = s.size := by
  rw [List.drop_eq_nil_of_le hk] at hd
  apply Classical.byContradiction
  intro h
  rw [cuts_cons o (by rw [ByteArray.size_extract]; omega)] at hd
  cases hd
theorem cuts_join (o : OkX L B M) : ∀ (n : Nat) (s : ByteArray), s.size ≤ n → Lib.join ((cuts L B M s).map (·.data.toList)) [] = s.data.toList
  | 0, s, h => by
    rw [cuts_nil (by omega)]
    have : s.data.toList.length = 0 := by simpa using h
    rw [List.length_eq_zero_iff.1 this]
    rfl
  | n + 1, s, h => by
    by_cases h0 : s.size = 0
    · rw [cuts_nil h0]
      have : s.data.toList.length = 0 := by simpa using h0
      rw [List.length_eq_zero_iff.1 this]
      rfl
    · have hf := fl_pos o (s := s) (by omega)
      have hf2 := fl_le o s
      have ih := cuts_join o n (s.extract (fl L B M s) s.size) (by rw [ByteArray.size_extract]; omega)
      rw [cuts_cons o (by omega), List.map_cons]
      have hj : ∀ (x : List UInt8) (r : List (List UInt8)), Lib.join (x :: r) [] = x ++ Lib.join r [] := fun x r => by
        cases r with
        | nil => simp [Lib.join, List.intercalate]
        | cons y r => rw [Lib.join_cons, Lib.join_cons]; simp [Lib.joinTail]
      rw [hj, ih, ex_list, ex_list]
      have e : s.size = s.data.toList.length := by simp
      rw [List.drop_zero, Nat.sub_zero, List.take_of_length_le (l := List.drop (fl L B M s) s.data.toList) (by rw [List.length_drop]; omega), List.take_append_drop]
theorem cuts_app (o : OkX L B M) (t : ByteArray) (ht : 0 < t.size) : ∀ (n : Nat) (s : ByteArray), s.size ≤ n → (cuts L B M s).length ≤ (cuts L B M (s ++ t)).length ∧ (cuts L B M s).take ((cuts L B M s).length - 1) = (cuts L B M (s ++ t)).take ((cuts L B M s).length - 1)
  | 0, s, h => by rw [cuts_nil (by omega)]; simp
  | n + 1, s, h => by
    by_cases h0 : s.size = 0
    · rw [cuts_nil h0]; simp
    have hf := fl_pos o (s := s) (by omega)
    have hf2 := fl_le o s
    by_cases hl : fl L B M s = s.size
    · have e1 : cuts L B M s = [s.extract 0 (fl L B M s)] := by rw [cuts_cons o (by omega), cuts_nil (s := s.extract (fl L B M s) s.size) (by rw [ByteArray.size_extract]; omega)]
      rw [e1, cuts_cons o (s := s ++ t) (by rw [ByteArray.size_append]; omega)]
      simp
    · have ea := fl_app o s t (by omega)
      have ih := cuts_app o t ht n (s.extract (fl L B M s) s.size) (by rw [ByteArray.size_extract]; omega)
      have e2 : cuts L B M (s ++ t) = s.extract 0 (fl L B M s) :: cuts L B M (s.extract (fl L B M s) s.size ++ t) := by
        rw [cuts_cons o (s := s ++ t) (by rw [ByteArray.size_append]; omega), ea, app_front t hf2, app_rest t hf2]
      have e3 := cuts_cons o (s := s) (by omega)
      have hpos : 0 < (cuts L B M (s.extract (fl L B M s) s.size)).length := by
        rw [cuts_cons o (by rw [ByteArray.size_extract]; omega)]; simp
      rw [e2, e3]
      refine ⟨by simp only [List.length_cons]; omega, ?_⟩
      rw [List.length_cons, show (cuts L B M (s.extract (fl L B M s) s.size)).length + 1 - 1 = ((cuts L B M (s.extract (fl L B M s) s.size)).length - 1) + 1 by omega, List.take_succ_cons, List.take_succ_cons, ih.2]
end
end Go.Proofs.YtdmlhkphdolbeaaDoor

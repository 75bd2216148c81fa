/-
  Contracts of the program and of the statements (part 3 of 12).
-/
import Derived.Test.YtcidfkkgpehodaaDoorPn2
import Derived.Laws.IdiomStrings

namespace Go.Proofs.YtcidfkkgpehodaaDoor
open Go.RowKit Go.Lib
/-- What repeats itself is packed to little. -/
def PackP (pk : ByteArray → ByteArray) : Prop := ∀ (s : ByteArray) (d : Nat), 1 ≤ d → d ≤ 64 → s.size ≤ 5000 → (∀ i, d ≤ i → i < s.size → bt s i = bt s (i - d)) → (pk s).size ≤ d + 40 + s.size / 200
/-- A make that was reckoned ahead. -/
theorem wpList_make_run {ops : Array Oper} {rest : List Oper} {op : Oper} {a : Act} {w w1 : World} {Q : Exit → Act → World → Prop} (hgd : op.guard = none) (ty : TypeId) (x y : Operand) (ho : op.op = .makeSlice ty x y)
    (p v u : Value) (hx : a.eval x = p) (hy : a.eval y = v) (hr : (Instr.makeSlice ty p v).run Tryd.prog w = .ok u w1)
    (h : wpList Tryd.prog ops Q rest (a.put op.dst u) w1) : wpList Tryd.prog ops Q (op :: rest) a w :=
  wpList_plain hgd fun _ hK => by
    unfold Oper.wp execOp
    simp only [ho, hx, hy, Sem.run_bind, Sem.run_pure, Result.andThen_ok, hr]
    exact hK _ _ h
/-- Bytes in a block of their own. -/
def BQ (w : World) (g : Nat) (L : List UInt8) : Prop := w.heap[g]? = some (.cells (L.map fun b => Value.int .u8 (b.toNat : Int)).toArray 5 (0, 0))
section
variable {w w' : World} {g j : Nat} {L : List UInt8}
theorem BQ.lt (h : BQ w g L) : g < w.heap.size := lt_of_block h
theorem BQ.bel (h : BQ w g L) (hb : Below w.heap.size w w') : BQ w' g L := (hb.block g h.lt).trans h
theorem BQ.set (h : BQ w g L) (b : UInt8) : BQ (w.setCell ⟨g, j, none⟩ (.int .u8 (b.toNat : Int))) g (L.set j b) := by
  have := heap_set_self (j := j) (u := .int .u8 (b.toNat : Int)) h
  unfold BQ
  rw [List.map_set]
  simpa using this
theorem BQ.cell (h : BQ w g L) (hj : j < L.length) : w.cell? ⟨g, j, none⟩ = some (.int .u8 ((L[j]'hj).toNat : Int)) := by
  rw [cell_of_row w g _ _ _ _ h]
  simp [hj]
theorem BQ.free (h : BQ w g L) : w.frozen? ⟨g, j, none⟩ = false := by simp [World.frozen?, BQ] at h ⊢; simp [h]
theorem BQ.str (h : BQ w g L) (c : Nat) : (convert 58 9 (.slice (some ⟨g, 0, none⟩) L.length c)).run Tryd.prog w = .ok (.string ⟨L.toArray⟩) w :=
  run_convert_bytes_back w 58 9 5 ⟨g, 0, none⟩ c L Tryd.underlying58 Tryd.underlying5 Tryd.underlying9 (fun j hj => by
    rw [Addr.add_mid, Nat.zero_add]
    exact h.cell hj)
theorem run_makeB (n : Nat) (hn : n ≤ 5000) (w : World) : ∃ W, (Instr.makeSlice 58 (.int .i64 (n : Int)) (.int .i64 (n : Int))).run Tryd.prog w = .ok (.slice (some ⟨w.heap.size, 0, none⟩) n n) W ∧ BQ W w.heap.size (List.replicate n 0) ∧ Below w.heap.size w W := by
  obtain ⟨i0, hi, hz0, hz1, hz2⟩ := info_parts Tryd.infoU8
  have hr := run_make (P := Tryd.prog) w 58 5 i0 _ Tryd.underlying58 hi hz0 .i64 .i64 (n : Int) (n : Int) (by omega) (Int.le_refl _) (by rw [hz2]; omega) (by omega)
  rw [hz1] at hr
  simp only [Int.toNat_natCast] at hr
  refine ⟨_, hr, ?_, (Below.refl _ _).alloc (Nat.le_refl _) _⟩
  have e : madeCells (Value.int .u8 0).cells (n * 1) = ((List.replicate n (0 : UInt8)).map fun b => Value.int .u8 (b.toNat : Int)).toArray := by
    apply Array.ext'
    rw [Nat.mul_one, show (Value.int .u8 0).cells = #[.int .u8 0] from rfl, toList_madeCells_one]
    simp
  unfold BQ
  rw [← e]
  exact heap_alloc_new w _
end
/-- The first j bytes of a part that is repeated; then zeros. -/
def rpt (p : List UInt8) (n j : Nat) : List UInt8 := (List.range n).map fun i => if i < j then p.getD (i % p.length) 0 else 0
theorem rpt_len (p : List UInt8) (n j : Nat) : (rpt p n j).length = n := by simp [rpt]
theorem rpt_zero (p : List UInt8) (n : Nat) : rpt p n 0 = List.replicate n 0 := by
  rw [rpt]
  apply List.ext_getElem?
  intro i
  simp only [List.getElem?_map, List.getElem?_replicate]
  by_cases h : i < n
  · rw [List.getElem?_range h, if_pos h]; simp
  · rw [List.getElem?_eq_none (by simp; omega), if_neg h]; rfl
theorem rpt_set (p : List UInt8) {n j : Nat} (hj : j < n) : (rpt p n j).set j (p.getD (j % p.length) 0) = rpt p n (j + 1) := by
  apply List.ext_getElem?
  intro i
  rw [List.getElem?_set, rpt_len]
  by_cases e : j = i
  · subst e
    rw [if_pos rfl, if_pos hj, rpt, List.getElem?_map, List.getElem?_range hj]
    simp
  · rw [if_neg e, rpt, rpt, List.getElem?_map, List.getElem?_map]
    by_cases hi : i < n
    · rw [List.getElem?_range hi]
      simp only [Option.map_some]
      by_cases hij : i < j
      · rw [if_pos hij, if_pos (by omega)]
      · rw [if_neg hij, if_neg (by omega)]
    · rw [List.getElem?_eq_none (by simp; omega)]
      rfl
theorem bt_list (L : List UInt8) (i : Nat) : bt ⟨L.toArray⟩ i = (L.getD i 0).toNat := by
  by_cases h : i < L.length
  · have hs : i < (⟨L.toArray⟩ : ByteArray).size := by simpa [ByteArray.size] using h
    rw [bt_at hs, List.getD_eq_getElem?_getD, List.getElem?_eq_getElem h]
    rfl
  · have hs : ¬ i < (⟨L.toArray⟩ : ByteArray).size := by simpa [ByteArray.size] using h
    rw [bt, dif_neg hs, List.getD_eq_getElem?_getD, List.getElem?_eq_none (by omega)]
    rfl
theorem rpt_get (p : List UInt8) {n i : Nat} (hi : i < n) : (rpt p n n).getD i 0 = p.getD (i % p.length) 0 := by
  rw [List.getD_eq_getElem?_getD, rpt, List.getElem?_map, List.getElem?_range hi]
  simp [hi]
theorem rpt_per (p : List UInt8) (n : Nat) {i : Nat} (h1 : p.length ≤ i) (h2 : i < n) : bt ⟨(rpt p n n).toArray⟩ i = bt ⟨(rpt p n n).toArray⟩ (i - p.length) := by
  rw [bt_list, bt_list, rpt_get p h2, rpt_get p (by omega)]
  congr 2
  rw [Nat.mod_eq_sub_mod h1]
section
variable {K : World → Prop} {pk : ByteArray → ByteArray}
end
end Go.Proofs.YtcidfkkgpehodaaDoor

namespace Go.Proofs.YtcidfkkgpehodaaDoor
theorem ba_eqL {a b : ByteArray} (h : a.data.toList = b.data.toList) : a = b := by
  cases a
  cases b
  congr 1
  exact Array.ext' h
section
variable {S : ByteArray} {A B C : List UInt8} {i n : Nat}
theorem bt_mid (h : S.data.toList = A ++ B) (hi : A.length = i) (k : Nat) : bt S (i + k) = (B.getD k 0).toNat := by
  rw [← bt_lst, h, List.getD_eq_getElem?_getD, List.getElem?_append_right (by omega), List.getD_eq_getElem?_getD, show i + k - A.length = k by omega]
theorem size_mid (h : S.data.toList = A ++ B) (hi : A.length = i) : S.size = i + B.length := by
  have := congrArg List.length h
  rw [List.length_append] at this
  rw [← hi, ← this]
  simp
theorem adS_len (n : Nat) : (adS n).length = if n < 15 then 0 else (n - 15) / 255 + 1 := by
  rw [adS]
  split
  · rfl
  · simp
theorem moG_rep (r : UInt8) (hr : r.toNat < 255) : ∀ (k i acc : Nat) (A : List UInt8), S.data.toList = A ++ (List.replicate k 255 ++ r :: C) → A.length = i → moG S (S.size - i) i acc = some (acc + 255 * k + r.toNat, i + k + 1)
  | 0, i, acc, A, h, hi => by
    have h1 := bt_mid h hi 0
    have h2 := size_mid h hi
    simp at h1 h2
    rw [moG_one (by omega) (by omega), h1]
    simp
  | k + 1, i, acc, A, h, hi => by
    have h1 := bt_mid h hi 0
    have h2 := size_mid h hi
    simp [List.replicate_succ] at h1 h2
    rw [moG_more (by omega) (by omega), h1, moG_rep r hr k (i + 1) _ (A ++ [255]) (by rw [h, List.replicate_succ]; simp) (by simp; omega)]
    simp
    omega
theorem mo_adS (h : S.data.toList = A ++ (adS n ++ C)) (hi : A.length = i) : mo S i (min n 15) = some (n, i + (adS n).length) := by
  rw [adS_len]
  by_cases c : n < 15
  · rw [mo_few (by omega), if_pos c, Nat.min_eq_left (by omega)]
    rfl
  · rw [Nat.min_eq_right (by omega), mo_on (by decide), if_neg c]
    rw [adS, if_neg c] at h
    have hr : (UInt8.ofNat ((n - 15) % 255)).toNat = (n - 15) % 255 := by rw [UInt8.toNat_ofNat']; omega
    rw [moG_rep (C := C) (UInt8.ofNat ((n - 15) % 255)) (by rw [hr]; omega) ((n - 15) / 255) i 15 A (by rw [h]; simp) hi, hr]
    simp
    omega
theorem hd1_nat (a b : Nat) : (hd1 a b).toNat = min a 15 * 16 + min b 15 := by rw [hd1, UInt8.toNat_ofNat']; omega
theorem ext_mid {L : ByteArray} (h : S.data.toList = A ++ (L.data.toList ++ C)) (hi : A.length = i) : S.extract i (i + L.size) = L := ba_eqL (by
  have e : L.data.toList.length = L.size := by simp
  rw [ByteArray.data_extract, Array.toList_extract, h]
  show List.take (i + L.size - i) (List.drop i _) = _
  rw [show i + L.size - i = L.data.toList.length by omega, ← hi, List.drop_left, List.take_left])
theorem enS_len (q : SQ) : (enS q).length = 1 + (adS q.lit.size).length + q.lit.size + (if q.long = 0 then 0 else 2 + (adS (q.long - 4)).length) := by
  have e : q.lit.data.toList.length = q.lit.size := by simp
  rw [enS, List.length_cons, List.length_append, List.length_append, e]
  split
  · simp; omega
  · simp; omega
theorem pq_en : ∀ (l : List SQ) (A : List UInt8) (i n : Nat), WS n l → S.data.toList = A ++ enL l → A.length = i → pq S i n = some (l, n + tot l)
  | [], _, _, _, h, _, _ => by cases h
  | q :: r, A, i, n, h, hs, hi => by
    have hs0 := hs
    rw [enL, List.flatMap_cons, enS] at hs
    have hs1 : S.data.toList = (A ++ [hd1 q.lit.size (q.long - 4)]) ++ (adS q.lit.size ++ (q.lit.data.toList ++ ((if q.long = 0 then [] else [UInt8.ofNat (q.dist % 256), UInt8.ofNat (q.dist / 256)] ++ adS (q.long - 4)) ++ r.flatMap enS))) := by rw [hs]; simp
    have hl1 : (A ++ [hd1 q.lit.size (q.long - 4)]).length = i + 1 := by simp; omega
    have hz1 := size_mid hs1 hl1
    have hb := bt_mid hs hi 0
    rw [Nat.add_zero, List.cons_append, List.getD_cons_zero, hd1_nat] at hb
    have m1 := mo_adS hs1 hl1
    have e1 : bt S i / 16 = min q.lit.size 15 := by omega
    have e2 : bt S i % 16 = min (q.long - 4) 15 := by omega
    rw [← e1] at m1
    obtain ⟨j, hj⟩ : ∃ j, j = i + 1 + (adS q.lit.size).length := ⟨_, rfl⟩
    rw [← hj] at m1
    have hs2 : S.data.toList = (A ++ [hd1 q.lit.size (q.long - 4)] ++ adS q.lit.size) ++ (q.lit.data.toList ++ ((if q.long = 0 then [] else [UInt8.ofNat (q.dist % 256), UInt8.ofNat (q.dist / 256)] ++ adS (q.long - 4)) ++ r.flatMap enS)) := by rw [hs1]; simp
    have hl2 : (A ++ [hd1 q.lit.size (q.long - 4)] ++ adS q.lit.size).length = j := by rw [List.length_append, hl1, hj]
    have hz2 := size_mid hs2 hl2
    have ez : q.lit.data.toList.length = q.lit.size := by simp
    rw [List.length_append, ez] at hz2
    have hx := ext_mid hs2 hl2
    rcases h with ⟨d0, l0, rfl⟩ | ⟨d1, d2, d3, d4, hr⟩
    · rw [if_pos l0] at hz2
      simp at hz2
      rw [pq_last (by omega) m1 (by omega) (by omega), if_pos (by rw [e2, l0]; rfl), hx]
      obtain ⟨ql, qd, qo⟩ := q
      simp only at d0 l0
      subst d0; subst l0
      simp [tot]
    · rw [if_neg (by omega)] at hs2 hz2
      have hs3 : S.data.toList = (A ++ [hd1 q.lit.size (q.long - 4)] ++ adS q.lit.size ++ q.lit.data.toList) ++ ([UInt8.ofNat (q.dist % 256), UInt8.ofNat (q.dist / 256)] ++ (adS (q.long - 4) ++ r.flatMap enS)) := by rw [hs2]; simp
      have hl3 : (A ++ [hd1 q.lit.size (q.long - 4)] ++ adS q.lit.size ++ q.lit.data.toList).length = j + q.lit.size := by rw [List.length_append, hl2, ez]
      have hs4 : S.data.toList = (A ++ [hd1 q.lit.size (q.long - 4)] ++ adS q.lit.size ++ q.lit.data.toList ++ [UInt8.ofNat (q.dist % 256), UInt8.ofNat (q.dist / 256)]) ++ (adS (q.long - 4) ++ r.flatMap enS) := by rw [hs3]; simp
      have hl4 : (A ++ [hd1 q.lit.size (q.long - 4)] ++ adS q.lit.size ++ q.lit.data.toList ++ [UInt8.ofNat (q.dist % 256), UInt8.ofNat (q.dist / 256)]).length = j + q.lit.size + 2 := by rw [List.length_append, hl3]; rfl
      have b0 := bt_mid hs3 hl3 0
      have b1 := bt_mid hs3 hl3 1
      have hz4 := size_mid hs4 hl4
      simp at b0 b1
      have hd : ds S (j + q.lit.size) = q.dist := by rw [ds, b0, b1]; omega
      have m2 := mo_adS hs4 hl4
      rw [← e2] at m2
      have hk : (A ++ enS q).length = j + q.lit.size + 2 + (adS (q.long - 4)).length := by
        rw [List.length_append, enS_len, if_neg (by omega), hi, hj]
        omega
      rw [pq_go (by omega) m1 (by omega) (by omega) (by omega) m2 (by rw [hd]; omega), hd, hx, show q.long - 4 + 4 = q.long by omega,
        pq_en r (A ++ enS q) _ _ hr (by rw [hs0, List.append_assoc]; rfl) hk]
      have et : tot (q :: r) = q.lit.size + q.long + tot r := by simp [tot]
      rw [et, show n + (q.lit.size + q.long + tot r) = n + q.lit.size + q.long + tot r by omega]
      rfl
theorem enL_len : ∀ (l : List SQ) (n : Nat), WS n l → 255 * (enL l).length ≤ 256 * tot l + 495
  | [], _, h => by cases h
  | q :: r, n, h => by
    have e : (enL (q :: r)).length = (enS q).length + (enL r).length := by rw [enL, List.flatMap_cons, List.length_append]; rfl
    have t : tot (q :: r) = q.lit.size + q.long + tot r := by simp [tot]
    rw [e, t, enS_len, adS_len, adS_len]
    rcases h with ⟨d0, l0, rfl⟩ | ⟨d1, d2, d3, d4, hr⟩
    · rw [if_pos l0]
      show 255 * (_ + 0) ≤ 256 * (_ + 0) + _
      split <;> omega
    · have := enL_len r _ hr
      rw [if_neg (by omega : ¬ q.long = 0)]
      split <;> split <;> omega
end
theorem pkB_list (s : ByteArray) : (pkB s).data.toList = enL (seG s s.size 0) := rfl
theorem pkB_size (s : ByteArray) : (pkB s).size = (enL (seG s s.size 0)).length := by rw [← pkB_list]; simp
theorem pkF : PackF pkB where
  back s _ := by
    obtain ⟨h1, h2⟩ := seG_ws (s := s) s.size 0 (Nat.zero_le _)
    refine ⟨seG s s.size 0, ?_, ?_⟩
    · rw [ps, pq_en (S := pkB s) _ [] 0 0 h1 (pkB_list s) rfl]
      rw [h2]
    · have := seG_opn (s := s) s.size 0 (Nat.zero_le _)
      rw [List.take_zero] at this
      rw [this]
  size s _ := by
    obtain ⟨h1, h2⟩ := seG_ws (s := s) s.size 0 (Nat.zero_le _)
    have := enL_len _ _ h1
    rw [pkB_size]
    omega
/-! ### What repeats itself -/
section
variable {s : ByteArray} {p : Nat}
/-- From p on each byte is the one p ahead. -/
def Per (s : ByteArray) (p : Nat) : Prop := 1 ≤ p ∧ p ≤ 64 ∧ ∀ i, p ≤ i → i < s.size → bt s i = bt s (i - p)
theorem Per.four (h : Per s p) {i : Nat} (hi : p ≤ i) (h4 : i + 4 ≤ s.size) : s4 s (i - p) i := by
  have e := fun k (hk : k < 4) => h.2.2 (i + k) (by omega) (by omega)
  have h1 := h.1
  refine ⟨?_, ?_, ?_, ?_⟩
  · have := e 0 (by decide); exact this.symm
  · have := e 1 (by decide); rw [this]; congr 1; omega
  · have := e 2 (by decide); rw [this]; congr 1; omega
  · have := e 3 (by decide); rw [this]; congr 1; omega
theorem Per.all (h : Per s p) {i : Nat} (hi : p ≤ i) : sm s (i - p) i = s.size - i := sm_all fun m hm => by
  rw [h.2.2 (i + m) (by omega) hm]; congr 1; omega
theorem loG_top {i : Nat} : ∀ (t : Nat) (o : Option Nat) (d l : Nat), l = s.size - i → (loG s i t o d l).2 = s.size - i
  | 0, _, _, _, h => h
  | t + 1, none, _, _, h => h
  | t + 1, some f, d, l, h => by
    rw [loG]
    have := sm_le (s := s) (j := f) (i := i)
    split
    · rw [if_neg (by omega)]
      exact loG_top t _ d l h
    · exact h
theorem loG_per (h : Per s p) {i : Nat} (hi : p ≤ i) (h4 : i + 4 ≤ s.size) : ∀ (t f d l : Nat), f < i → i - p ≤ f → s4 s f i → f - (i - p) < t → l ≤ s.size - i → (loG s i t (some f) d l).2 = s.size - i
  | 0, f, _, _, _, _, _, h4, _ => by omega
  | t + 1, f, d, l, h1, h2, h3, h5, h6 => by
    have hp := h.1
    have hp2 := h.2.1
    rw [loG, if_pos (by omega)]
    by_cases e : f = i - p
    · subst e
      rw [h.all hi]
      split
      · exact loG_top t _ _ _ rfl
      · exact loG_top t _ _ _ (by omega)
    · obtain ⟨g, g1, g2, g3, g4⟩ := pvG_max (s := s) (i := f) (k := f) (m := i - p) (by omega) ((h.four hi h4).trans h3.symm)
      have hg : pv s f = some g := by rw [pv, if_pos (by omega)]; exact g1
      rw [hg]
      have hsm := sm_le (s := s) (j := f) (i := i)
      split
      · exact loG_per h hi h4 t g _ _ (by omega) g2 (g4.trans h3) (by omega) hsm
      · exact loG_per h hi h4 t g _ _ (by omega) g2 (g4.trans h3) (by omega) h6
theorem lo_per (h : Per s p) {i : Nat} (hi : p ≤ i) (h4 : i + 4 ≤ s.size) : (lo s i).2 = s.size - i := by
  have hp := h.1
  have hp2 := h.2.1
  obtain ⟨g, g1, g2, g3, g4⟩ := pvG_max (s := s) (i := i) (k := i) (m := i - p) (by omega) (h.four hi h4)
  have hg : pv s i = some g := by rw [pv, if_pos h4]; exact g1
  rw [lo, hg]
  exact loG_per h hi h4 64 g 0 0 g3 g2 g4 (by omega) (Nat.zero_le _)
theorem lo_few {i : Nat} (h4 : ¬ i + 4 ≤ s.size) : (lo s i).2 = 0 := by rw [lo, pv_few h4]; rfl
/-- Once it repeats itself, the next repeat is all that is left. -/
theorem nxG_per (h : Per s p) {i : Nat} (hi : p ≤ i) (h4 : i + 4 ≤ s.size) (f : Nat) : nxG s f i (lo s i) = (i, lo s i) := by
  cases f with
  | zero => rfl
  | succ f =>
    rw [nxG]
    have e := lo_per h hi h4
    by_cases c : (lo s i).2 < 32 ∧ i < s.size
    · rw [if_pos c, if_pos]
      refine ⟨by omega, ?_⟩
      by_cases c2 : i + 1 + 4 ≤ s.size
      · rw [lo_per h (by omega) c2, e]; omega
      · rw [lo_few c2]; omega
    · rw [if_neg c]
/-- The next repeat begins at p at the latest. -/
theorem nxG_early (h : Per s p) (h4 : p + 4 ≤ s.size) : ∀ (f i : Nat), i ≤ p → p - i ≤ f → (nxG s f i (lo s i)).1 ≤ p
  | 0, i, h1, h2 => by show i ≤ p; omega
  | f + 1, i, h1, h2 => by
    by_cases e : i = p
    · subst e
      rw [nxG_per h (Nat.le_refl _) h4]
      exact Nat.le_refl _
    · rw [nxG]
      split
      · split
        · exact h1
        · exact nxG_early h h4 f (i + 1) (by omega) (by omega)
      · exact h1
theorem nxG_pos (h : Per s p) (h4 : p + 4 ≤ s.size) : ∀ (f i : Nat), i ≤ p → p - i ≤ f → 0 < (nxG s f i (lo s i)).2.2
  | 0, i, h1, h2 => by
    have e : i = p := by omega
    subst e
    show 0 < (lo s i).2
    rw [lo_per h (Nat.le_refl _) h4]
    omega
  | f + 1, i, h1, h2 => by
    by_cases e : i = p
    · subst e
      rw [nxG_per h (Nat.le_refl _) h4]
      show 0 < (lo s i).2
      rw [lo_per h (Nat.le_refl _) h4]
      omega
    · rw [nxG]
      split
      · split
        · rename_i c; exact c.1
        · exact nxG_pos h h4 f (i + 1) (by omega) (by omega)
      · rename_i c
        show 0 < (lo s i).2
        omega
theorem seG_end (h : Per s p) {i : Nat} (hi : p ≤ i) (hz : i ≤ s.size) : ∀ (f : Nat), s.size - i ≤ f → (enL (seG s f i)).length ≤ 5 + (s.size - i) / 255
  | f, hf => by
    have last : ∀ x y : Nat, x ≤ y → y ≤ s.size → y - x ≤ 3 → (enL [⟨s.extract x y, 0, 0⟩]).length ≤ 1 + (y - x) := fun x y h1 h2 h3 => by
      have e : (s.extract x y).size = y - x := by rw [ByteArray.size_extract]; omega
      rw [enL, List.flatMap_cons, List.flatMap_nil, List.append_nil, enS_len]
      show 1 + (adS (s.extract x y).size).length + (s.extract x y).size + (if 0 = 0 then 0 else _) ≤ _
      rw [e, adS_len, if_pos (by omega), if_pos rfl]
      omega
    cases f with
    | zero =>
      rw [seG]
      have := last i s.size hz (Nat.le_refl _) (by omega)
      omega
    | succ f =>
      rw [seG]
      by_cases h4 : i + 4 ≤ s.size
      · have hn : nx s i = (i, lo s i) := nxG_per h hi h4 _
        have e := lo_per h hi h4
        rw [hn]
        show (enL (if 0 < (lo s i).2 then _ else _)).length ≤ _
        rw [if_pos (by omega), enL, List.flatMap_cons, List.length_append, enS_len]
        show 1 + (adS (s.extract i i).size).length + (s.extract i i).size + (if (lo s i).2 = 0 then 0 else 2 + (adS ((lo s i).2 - 4)).length) + (enL (seG s f (i + (lo s i).2))).length ≤ _
        have ez : (s.extract i i).size = 0 := by rw [ByteArray.size_extract]; omega
        have hr : (enL (seG s f (i + (lo s i).2))).length ≤ 1 := by
          rw [e, show i + (s.size - i) = s.size by omega]
          have hl := last s.size s.size (Nat.le_refl _) (Nat.le_refl _) (by omega)
          have hx : (lo s s.size).2 = 0 := lo_few (by omega)
          have hq : nx s s.size = (s.size, lo s s.size) := by rw [nx, Nat.sub_self]; rfl
          cases f with
          | zero => rw [seG]; omega
          | succ f =>
            rw [seG, hq]
            show (enL (if 0 < (lo s s.size).2 then _ else _)).length ≤ _
            rw [if_neg (by omega)]
            omega
        rw [e] at hr
        rw [ez, e, adS_len, adS_len, if_neg (by omega : ¬ s.size - i = 0)]
        have k2 : (if s.size - i - 4 < 15 then 0 else (s.size - i - 4 - 15) / 255 + 1) ≤ 1 + (s.size - i) / 255 := by split <;> omega
        simp only [show (0 : Nat) < 15 by decide, if_true]
        omega
      · have hx : (nx s i).2.2 = 0 := by
          rw [nx_lo]
          have := (nx_is s i).2.1
          exact lo_few (by omega)
        rw [if_neg (by omega)]
        have := last i s.size hz (Nat.le_refl _) (by omega)
        omega
theorem seG_per (h : Per s p) (h4 : p + 4 ≤ s.size) : ∀ (f i : Nat), i ≤ p → s.size - i ≤ f → (enL (seG s f i)).length ≤ (p - i) + 12 + (s.size - i) / 255
  | 0, i, h1, h2 => by omega
  | f + 1, i, h1, h2 => by
    have hp2 := h.2.1
    have c : 0 < (nx s i).2.2 := nxG_pos h h4 _ i h1 (by omega)
    have ce : (nx s i).1 ≤ p := nxG_early h h4 _ i h1 (by omega)
    obtain ⟨r1, r2, r3, r4, r5, _⟩ := nx_rp c
    obtain ⟨_, n2, n3⟩ := nx_is s i
    obtain ⟨a, ha⟩ : ∃ a, a = (nx s i).1 := ⟨_, rfl⟩
    obtain ⟨l, hl⟩ : ∃ l, l = (nx s i).2.2 := ⟨_, rfl⟩
    have ez : (s.extract i a).size = a - i := by rw [ByteArray.size_extract, ha]; omega
    rw [seG, if_pos c, enL, List.flatMap_cons, List.length_append, enS_len]
    show 1 + (adS (s.extract i (nx s i).1).size).length + (s.extract i (nx s i).1).size + (if (nx s i).2.2 = 0 then 0 else 2 + (adS ((nx s i).2.2 - 4)).length) + (enL (seG s f ((nx s i).1 + (nx s i).2.2))).length ≤ _
    rw [← ha] at ce r4 r5 n2 n3 ⊢
    rw [← hl] at r1 r5 c ⊢
    rw [ez, adS_len, adS_len, if_neg (by omega : ¬ l = 0)]
    have k1 : (if a - i < 15 then 0 else (a - i - 15) / 255 + 1) ≤ 1 := by split <;> omega
    have k2 : (if l - 4 < 15 then 0 else (l - 4 - 15) / 255 + 1) ≤ 1 + l / 255 := by split <;> omega
    have k3 : (if l - 4 < 15 then 0 else (l - 4 - 15) / 255 + 1) ≤ l - 4 := by split <;> omega
    by_cases g : a + l < p
    · have := seG_per h h4 f (a + l) (by omega) (by omega)
      omega
    · have := seG_end h (i := a + l) (by omega) r5 f (by omega)
      omega
end
theorem pkP : PackP pkB := fun s d h1 h2 hs h => by
  rw [pkB_size]
  by_cases h4 : d + 4 ≤ s.size
  · have := seG_per ⟨h1, h2, h⟩ h4 s.size 0 (Nat.zero_le _) (by omega)
    omega
  · obtain ⟨g1, g2⟩ := seG_ws (s := s) s.size 0 (Nat.zero_le _)
    have := enL_len _ _ g1
    omega
end Go.Proofs.YtcidfkkgpehodaaDoor

namespace Go.Proofs.YtcidfkkgpehodaaDoor
open Go.RowKit Go.Lib
def BDecC (K : World → Prop) : Prop := ∀ (w : World) (s : ByteArray), K w → s.size ≤ 140000 → lnB s ≤ 20000 → Calls Tryd.prog 35 #[.string s] w fun e w' => e = .returned (.tuple #[.int .i64 (dK (dcB s)), .string (dT (dcB s)), .int .i64 (dC (dcB s))]) ∧ Below w.heap.size w w'
def BOpenC (K : World → Prop) : Prop := ∀ (w : World) (s i : ByteArray), K w → s.size ≤ 140000 → lnB s ≤ 20000 → Calls Tryd.prog 43 #[.string s, .string i] w fun e w' => e = .returned (.tuple #[.int .i64 (dK (opB s i)), .string (dT (opB s i)), .int .i64 (dC (opB s i))]) ∧ Below w.heap.size w w'
def BIdC (K : World → Prop) : Prop := ∀ (w : World) (k : Int) (t : ByteArray), K w → t.size ≤ 140737488355328 → Calls Tryd.prog 25 #[.int .i64 k, .string t] w fun e w' => e = .returned (.tuple #[.string (idS k t), .int .i64 (idC k)]) ∧ Below w.heap.size w w'
/-- A blob's bytes: packed just if that is less. -/
def enB (k : Int) (t : ByteArray) : ByteArray := if rfC k t = 0 then (if (pkB t).size < t.size then b1 (k.toNat + 16) ++ Zq.Nm.strOf (uvarint t.size) ++ pkB t else plB k.toNat t) else ⟨#[]⟩
def BEncC (K : World → Prop) : Prop := ∀ (w : World) (k : Int) (t : ByteArray), K w → t.size ≤ 3000 ∨ 65536 < t.size → t.size ≤ 140737488355328 → Calls Tryd.prog 24 #[.int .i64 k, .string t] w fun e w' => e = .returned (.tuple #[.string (enB k t), .int .i64 (rfC k t)]) ∧ Below w.heap.size w w'
theorem ex13 : enB 1 ⟨#[97, 98]⟩ = ⟨#[1, 2, 97, 98]⟩ ∧ rfC 1 ⟨#[97, 98]⟩ = 0 := by
  have h1 : rfC 1 ⟨#[97, 98]⟩ = 0 := by decide
  have h2 : ¬ (pkB ⟨#[97, 98]⟩).size < (ByteArray.mk #[97, 98]).size := by decide +kernel
  refine ⟨?_, h1⟩
  rw [enB, if_pos h1, if_neg h2, plB]
  have h3 : (ByteArray.mk #[97, 98]).size = 2 := rfl
  rw [Zq.Nm.textOf, h3, uvarint_small (by decide)]
  rfl
section
variable {K : World → Prop}
theorem ln_le (s : ByteArray) : lnB s ≤ 65536 := by
  rcases ho : okH s with _ | _
  · rw [(hd_no ho).1]; exact Nat.zero_le _
  · exact (hd_yes ho).2.2.2.2.2.1
end
end Go.Proofs.YtcidfkkgpehodaaDoor

namespace Go.Proofs.YtcidfkkgpehodaaDoor
open Go.RowKit Go.Lib
/-- What stands ahead of a text, or of its block. -/
def hdB (k : Nat) (t : ByteArray) : ByteArray := b1 k ++ Zq.Nm.strOf (uvarint t.size)
theorem pl_eq (k : Nat) (t : ByteArray) : plB k t = hdB k t ++ t := by rw [plB, hdB, ← Zq.Nm.textOf_eq, ByteArray.append_assoc]
theorem hd_size (k : Nat) (t : ByteArray) : (hdB k t).size = 1 + (uvarint t.size).length := by rw [hdB, ba_add, b1_size, Zq.Nm.strOf_size]
theorem hd_size10 {t : ByteArray} (k : Nat) (h : t.size ≤ 65536) : (hdB k t).size ≤ 10 := by
  have := Zq.Nm.uvarint_nine (x := t.size) (by omega)
  rw [hd_size]
  omega
theorem ext_left (a b : ByteArray) : (a ++ b).extract 0 a.size = a := by
  have e : a.size = a.data.toList.length := by rw [ByteArray.size, Array.length_toList]
  apply ByteArray.ext
  apply Array.toList_inj.1
  rw [ByteArray.data_extract, Array.toList_extract, List.extract_eq_take_drop, ByteArray.data_append, Array.toList_append, List.drop_zero, Nat.sub_zero, e, List.take_append_of_le_length (Nat.le_refl _), List.take_of_length_le (Nat.le_refl _)]
theorem en_packed {k : Nat} {t : ByteArray} (h : rfC k t = 0) (hl : (pkB t).size < t.size) : enB k t = hdB (k + 16) t ++ pkB t := by
  rw [enB, if_pos h, if_pos hl, Int.toNat_natCast, hdB]
theorem en_plain {k : Nat} {t : ByteArray} (h : rfC k t = 0) (hl : ¬ (pkB t).size < t.size) : enB k t = plB k t := by
  rw [enB, if_pos h, if_neg hl, Int.toNat_natCast]
section
variable {K : World → Prop}
end
end Go.Proofs.YtcidfkkgpehodaaDoor

namespace Go.Proofs.YtcidfkkgpehodaaDoor.Zq.Nm
open Go.Lib
theorem uvarint_ne (n : Nat) : uvarint n ≠ [] := fun h => by have := uvarint_pos n; rw [h] at this; simp at this

/-- A short number that was written is read. -/
theorem shortGo_write (most : Int) : ∀ (f i m n : Nat) (r : List UInt8), (uvarint n).length ≤ f → (0 < i → 0 < n) → ((m + n * 2 ^ (7 * i) : Nat) : Int) ≤ most →
    shortGo most f i m (uvarint n ++ r) = ⟨m + n * 2 ^ (7 * i), ⟨#[]⟩, i + (uvarint n).length, 0⟩
  | 0, _, _, n, _, h, _, _ => by have := uvarint_pos n; omega
  | f + 1, i, m, n, r, h, hi, hm => by
    by_cases hn : n < 128
    · rw [uvarint_small hn]
      have hc : n.toUInt8.toNat = n := toUInt8_toNat (by omega)
      rw [List.cons_append, List.nil_append, shortGo, hc, if_neg (by omega), if_neg (by omega), Nat.mod_eq_of_lt hn, if_neg (by omega)]
      rfl
    · rw [uvarint_big (by omega)] at h ⊢
      have hc : (n % 128 + 128).toUInt8.toNat = n % 128 + 128 := toUInt8_toNat (by omega)
      have hp : 2 ^ (7 * (i + 1)) = 128 * 2 ^ (7 * i) := by rw [Nat.mul_add, Nat.pow_add, Nat.mul_comm]
      have e : m + n % 128 * 2 ^ (7 * i) + n / 128 * 2 ^ (7 * (i + 1)) = m + n * 2 ^ (7 * i) := by
        have : n * 2 ^ (7 * i) = (n % 128 + 128 * (n / 128)) * 2 ^ (7 * i) := by rw [Nat.mod_add_div]
        rw [this, hp, Nat.add_mul, Nat.add_assoc, ← Nat.mul_assoc, Nat.mul_comm (n / 128) 128]
      rw [List.length_cons] at h
      rw [List.cons_append, shortGo, hc, if_pos (by omega), show (n % 128 + 128) % 128 = n % 128 from by omega,
        shortGo_write most f (i + 1) _ (n / 128) r (by omega) (fun _ => by omega) (by rw [e]; exact hm), e, List.length_cons]
      congr 1
      omega

theorem shortA_write (t : ByteArray) (p n : Nat) (most : Int) (r : List UInt8) (h : t.data.toList.drop p = uvarint n ++ r) (hn : n ≤ 9223372036854775807) (hm : (n : Int) ≤ most) :
    shortA t p most = ⟨n, ⟨#[]⟩, (uvarint n).length, 0⟩ := by
  unfold shortA
  rw [h, shortGo_write most 9 0 0 n r (uvarint_nine hn) (fun h => by omega) (by simpa using hm)]
  simp
/-- What is read of a beginning is read of the whole. -/
theorem shortGo_more (most : Int) : ∀ (f i n : Nat) (l r : List UInt8), (shortGo most f i n l).code = 0 → shortGo most f i n (l ++ r) = shortGo most f i n l
  | 0, _, _, _, _, h => by simp [shortGo, Ah.bad] at h
  | f + 1, i, n, [], r, h => by simp [shortGo, Ah.bad] at h
  | f + 1, i, n, c :: l, r, h => by
    rw [shortGo] at h
    rw [List.cons_append, shortGo, shortGo]
    by_cases h1 : 128 ≤ c.toNat
    · rw [if_pos h1] at h
      rw [if_pos h1, if_pos h1]
      exact shortGo_more most f (i + 1) _ l r h
    · rw [if_neg h1, if_neg h1]
end Go.Proofs.YtcidfkkgpehodaaDoor.Zq.Nm
namespace Go.Proofs.YtcidfkkgpehodaaDoor
open Go.RowKit Go.Lib
theorem ba_ext {a b : ByteArray} (h : a.data.toList = b.data.toList) : a = b := ByteArray.ext (Array.toList_inj.1 h)
theorem ex_list (s : ByteArray) (a b : Nat) : (s.extract a b).data.toList = (s.data.toList.drop a).take (b - a) := by
  rw [ByteArray.data_extract, Array.toList_extract, List.extract_eq_take_drop]
theorem ap_list (a b : ByteArray) : (a ++ b).data.toList = a.data.toList ++ b.data.toList := by rw [ByteArray.data_append, Array.toList_append]
theorem li_size (a : ByteArray) : a.data.toList.length = a.size := by rw [ByteArray.size, Array.length_toList]
theorem ext_right (a b : ByteArray) : (a ++ b).extract a.size (a ++ b).size = b := by
  apply ba_ext
  rw [ex_list, ap_list, ← li_size a, List.drop_left, ba_add, ← li_size a, ← li_size b, Nat.add_sub_cancel_left, List.take_of_length_le (Nat.le_refl _)]
theorem bl_list {s : ByteArray} {c : UInt8} {r : List UInt8} (h : s.data.toList = c :: r) : bt s 0 = c.toNat := by
  have hz : 0 < s.size := by rw [← li_size, h]; exact Nat.succ_pos _
  rw [bt_at hz]
  congr 1
  have e : s.data.toList[0]'(by rw [li_size]; exact hz) = c := by simp [h]
  rw [← e]
  rfl
theorem bl_mid {s : ByteArray} {a b i : Nat} (h : i < b - a) (hb : b ≤ s.size) : bt (s.extract a b) i = bt s (a + i) := by
  have h1 : i < (s.extract a b).size := by rw [ByteArray.size_extract]; omega
  rw [bt_at h1, bt_at (show a + i < s.size by omega)]
  congr 1
  rw [ByteArray.getElem_extract]
theorem hd_list (k : Nat) (t B : ByteArray) : (hdB k t ++ B).data.toList = UInt8.ofNat k :: (uvarint t.size ++ B.data.toList) := by
  rw [ap_list, hdB, ap_list]
  rfl
/-- A head, read. -/
theorem hd_read {k : Nat} {t B : ByteArray} (hk : k = 1 ∨ k = 2 ∨ k = 17 ∨ k = 18) (ht : t.size ≤ 65536) : hdA (hdB k t ++ B) = ⟨t.size, ⟨#[]⟩, (uvarint t.size).length, 0⟩ ∧ bt (hdB k t ++ B) 0 = k ∧ okH (hdB k t ++ B) = true ∧ lnB (hdB k t ++ B) = t.size ∧ atB (hdB k t ++ B) = (hdB k t).size ∧ (hdB k t ++ B).extract (hdB k t).size (hdB k t ++ B).size = B := by
  have h1 : hdA (hdB k t ++ B) = ⟨t.size, ⟨#[]⟩, (uvarint t.size).length, 0⟩ := by
    refine Zq.Nm.shortA_write _ 1 t.size 65536 B.data.toList ?_ (by omega) (by omega)
    rw [hd_list]
    rfl
  have h2 : bt (hdB k t ++ B) 0 = k := by
    rw [bl_list (hd_list k t B), UInt8.toNat_ofNat']
    omega
  have hz : 0 < (hdB k t ++ B).size := by rw [ba_add, hd_size]; omega
  have h3 : okH (hdB k t ++ B) = true := by
    rw [okH, show fb (hdB k t ++ B) = k from h2, h1, decide_eq_true hz]
    rcases hk with rfl | rfl | rfl | rfl <;> rfl
  refine ⟨h1, h2, h3, ?_, ?_, ext_right _ _⟩
  · rw [lnB, if_pos h3, h1]
  · rw [atB, if_pos h3, h1, hd_size]
theorem hd_small {t : ByteArray} (k : Nat) (h : t.size ≤ 2000) : (hdB k t).size ≤ 3 := by
  rw [hd_size]
  by_cases c : t.size < 128
  · rw [uvarint_small c]
    exact (by decide : 1 + 1 ≤ 3)
  · rw [uvarint_big (by omega), uvarint_small (by omega)]
    exact Nat.le_refl _
theorem rf_ok {m : Nat} {t : ByteArray} (hm : m = 1 ∨ m = 2) (ht : t.size ≤ 2000) : rfC m t = 0 := by
  have e : kn (m : Int) = true := kn_iff.2 (by omega)
  rw [rfC, if_pos e, if_pos (by omega)]
/-- There and back. -/
theorem dc_en {m : Nat} {t : ByteArray} (hm : m = 1 ∨ m = 2) (ht : t.size ≤ 2000) : dcB (enB m t) = some (m, t) ∧ lnB (enB m t) = t.size ∧ okH (enB m t) = true ∧ (enB m t).size ≤ t.size + 6 ∧ 0 < (enB m t).size := by
  have hr := rf_ok hm ht
  by_cases hl : (pkB t).size < t.size
  · obtain ⟨h1, h2, h3, h4, h5, h6⟩ := hd_read (k := m + 16) (t := t) (B := pkB t) (by omega) (by omega)
    obtain ⟨u1, u2⟩ := pkF.up (s := t) (by omega)
    have hs := hd_small (t := t) (m + 16) ht
    rw [en_packed hr hl]
    refine ⟨?_, h4, h3, ?_, ?_⟩
    · rw [dcB, if_pos h3, show fb (hdB (m + 16) t ++ pkB t) = m + 16 from h2, if_neg (by omega), h4, h5, h6, u2, if_pos rfl, u1, Nat.add_sub_cancel]
    · rw [ba_add]; omega
    · rw [ba_add, hd_size]; omega
  · obtain ⟨h1, h2, h3, h4, h5, h6⟩ := hd_read (k := m) (t := t) (B := t) (by omega) (by omega)
    have hs := hd_small (t := t) m ht
    rw [en_plain hr hl, pl_eq]
    refine ⟨?_, h4, h3, ?_, ?_⟩
    · rw [dcB, if_pos h3, show fb (hdB m t ++ t) = m from h2, if_pos (by omega), h4, h5, h6, if_pos (by rw [ba_add]; omega)]
    · rw [ba_add]; omega
    · rw [ba_add, hd_size]; omega
/-- A beginning that has a head has that of the whole. -/
theorem cut_head {k j : Nat} {t B : ByteArray} (hk : k = 1 ∨ k = 2 ∨ k = 17 ∨ k = 18) (ht : t.size ≤ 65536) (hj : j < (hdB k t ++ B).size) (ho : okH ((hdB k t ++ B).extract 0 j) = true) :
    lnB ((hdB k t ++ B).extract 0 j) = t.size ∧ atB ((hdB k t ++ B).extract 0 j) = (hdB k t).size ∧ bt ((hdB k t ++ B).extract 0 j) 0 = k ∧ (hdB k t).size ≤ j := by
  obtain ⟨h1, h2, h3, h4, h5, h6⟩ := hd_read (k := k) (t := t) (B := B) hk ht
  generalize hdB k t ++ B = S at *
  obtain ⟨y1, y2, y3, y4, y5, y6, y7⟩ := hd_yes ho
  have hz : (S.extract 0 j).size = j := by rw [ByteArray.size_extract]; omega
  have hA : hdA S = hdA (S.extract 0 j) := by
    have hc : (hdA (S.extract 0 j)).code = 0 := by rw [y3]
    have hL : S.data.toList.drop 1 = (S.extract 0 j).data.toList.drop 1 ++ S.data.toList.drop j := by
      have e1 : (S.extract 0 j).data.toList = S.data.toList.take j := by rw [ex_list, List.drop_zero, Nat.sub_zero]
      have e2 : 1 ≤ (S.data.toList.take j).length := by rw [List.length_take, li_size]; omega
      rw [e1, ← List.drop_append_of_le_length e2, List.take_append_drop]
    rw [hdA, hdA, Zq.Nm.shortA, Zq.Nm.shortA, hL]
    exact Zq.Nm.shortGo_more _ _ _ _ _ _ hc
  have e1 : lnB (S.extract 0 j) = t.size := by rw [lnB, if_pos ho, ← hA, h1]
  have e2 : atB (S.extract 0 j) = (hdB k t).size := by rw [atB, if_pos ho, ← hA, h1, hd_size]
  refine ⟨e1, e2, ?_, by omega⟩
  rw [bt_extract (by omega) (by omega), h2]
/-- Cut short it is none. -/
theorem dc_cut {m j : Nat} {t : ByteArray} (hm : m = 1 ∨ m = 2) (ht : t.size ≤ 2000) (hj : j < (enB m t).size) : dcB ((enB m t).extract 0 j) = none ∧ lnB ((enB m t).extract 0 j) ≤ 20000 ∧ ((enB m t).extract 0 j).size ≤ 2006 := by
  have hsz := (dc_en hm ht).2.2.2.1
  have hz : ((enB m t).extract 0 j).size = j := by rw [ByteArray.size_extract]; omega
  rcases ho : okH ((enB m t).extract 0 j) with _ | _
  · obtain ⟨a, b, c, d⟩ := hd_no ho
    exact ⟨d, by omega, by omega⟩
  have hr := rf_ok hm ht
  by_cases hl : (pkB t).size < t.size
  · rw [en_packed hr hl] at *
    obtain ⟨h1, h2, h3, h4, h5, h6⟩ := hd_read (k := m + 16) (t := t) (B := pkB t) (by omega) (by omega)
    obtain ⟨e1, e2, e3, e4⟩ := cut_head (by omega) (by omega) hj ho
    refine ⟨?_, by omega, by omega⟩
    have hsum := ba_add (hdB (m + 16) t) (pkB t)
    generalize hdB (m + 16) t ++ pkB t = S at *
    obtain ⟨p, hp⟩ : ∃ p, p = (S.extract 0 j).extract (hdB (m + 16) t).size j := ⟨_, rfl⟩
    have hps : p.size = j - (hdB (m + 16) t).size := by rw [hp, ByteArray.size_extract]; omega
    have hpre : Pre p (pkB t) := ⟨by omega, fun i hi => by
      rw [hp, bl_mid (by omega) (by omega), bt_extract (by omega) (by omega), ← h6, bl_mid (by omega) (Nat.le_refl _)]⟩
    obtain ⟨l, b1_, b2_⟩ := pkF.back t (by omega)
    have hn : (0 : Int) ≤ (t.size : Int) ∧ (t.size : Int) ≤ 1048576 := by omega
    have hu : ¬ upC p (t.size : Int) = 0 := by
      rcases hq : ps p with _ | ⟨l', t'⟩
      · rw [(up_none hn hq).2]; decide
      · rcases ps_pre hpre (by omega) hq with h | ⟨l2, t2, h, hlt⟩
        · rw [b1_] at h; exact absurd h (by simp)
        · rw [b1_] at h
          simp only [Option.some.injEq, Prod.mk.injEq] at h
          rw [(up_other hn hq (by omega)).2]
          decide
    rw [dcB, if_pos ho, show fb (S.extract 0 j) = m + 16 from e3, if_neg (by omega), hz, e1, e2, ← hp, if_neg hu]
  · rw [en_plain hr hl, pl_eq] at *
    obtain ⟨e1, e2, e3, e4⟩ := cut_head (by omega) (by omega) hj ho
    refine ⟨?_, by omega, by omega⟩
    have hsum := ba_add (hdB m t) t
    rw [dcB, if_pos ho, show fb ((hdB m t ++ t).extract 0 j) = m from e3, if_pos (by omega), hz, e1, e2, if_neg (by omega)]
end Go.Proofs.YtcidfkkgpehodaaDoor

namespace Go.Proofs.YtcidfkkgpehodaaDoor
open Go.RowKit Go.Lib
/-- An item. -/
structure IT where
  id : ByteArray
  pk : ByteArray
  kind : Int
  off : Int
  long : Int
  size : Int
/-- A blob that is put into a pack. -/
structure BE where
  s : ByteArray
  id : ByteArray
  kind : Nat
  size : Nat
def hd5 : ByteArray := ⟨#[71, 82, 84, 80, 1]⟩
def tl4 : ByteArray := ⟨#[80, 69, 78, 68]⟩
/-- A short number's bytes; a fixed one's. -/
def smB (n : Nat) : ByteArray := Zq.Nm.strOf (uvarint n)
def fxB (n k : Nat) : ByteArray := Zq.Nm.strOf (Zq.Nm.fixedOf n k)
def dgB (s : ByteArray) : ByteArray := Zq.Sh.strOf (Zq.Sh.digest s.data.toList)
def lineB (x : BE) : ByteArray := x.id ++ b1 x.kind ++ smB x.s.size ++ smB x.size
def blbB : List BE → ByteArray
  | [] => ⟨#[]⟩
  | x :: r => x.s ++ blbB r
def linesB : List BE → ByteArray
  | [] => ⟨#[]⟩
  | x :: r => lineB x ++ linesB r
def dirB (l : List BE) : ByteArray := smB l.length ++ linesB l
/-- A pack's bytes, and its items. -/
def paT (l : List BE) : ByteArray := hd5 ++ blbB l ++ dirB l ++ fxB (dirB l).size 4 ++ tl4
def itsB (pk : ByteArray) : Nat → List BE → List IT
  | _, [] => []
  | a, x :: r => ⟨x.id, pk, (x.kind : Int), (a : Int), (x.s.size : Int), (x.size : Int)⟩ :: itsB pk (a + x.s.size) r
/-- What a line of the directory is read as. -/
def q1 (D : ByteArray) (p : Nat) : Zq.Nm.Ah := Zq.Nm.asked 0 (Zq.Nm.bytesA D p 32)
def p1' (D : ByteArray) (p : Nat) : Nat := p + (q1 D p).long
def q2 (D : ByteArray) (p : Nat) : Zq.Nm.Ah := Zq.Nm.asked (q1 D p).code (Zq.Nm.fixedA D (p1' D p) 1)
def p2' (D : ByteArray) (p : Nat) : Nat := p1' D p + (q2 D p).long
def q3 (D : ByteArray) (p : Nat) : Zq.Nm.Ah := Zq.Nm.asked (q2 D p).code (Zq.Nm.shortA D (p2' D p) 65536)
def p3' (D : ByteArray) (p : Nat) : Nat := p2' D p + (q3 D p).long
def q4 (D : ByteArray) (p : Nat) : Zq.Nm.Ah := Zq.Nm.asked (q3 D p).code (Zq.Nm.shortA D (p3' D p) 65536)
def p4' (D : ByteArray) (p : Nat) : Nat := p3' D p + (q4 D p).long
def itR (D pk : ByteArray) (p a : Nat) : IT := ⟨(q1 D p).txt, pk, ((q2 D p).num : Int), (a : Int), ((q3 D p).num : Int), ((q4 D p).num : Int)⟩
def okL (D : ByteArray) (fr p a : Nat) (L : List IT) : Bool := decide ((q4 D p).code = 0) && kn ((q2 D p).num : Int) && decide (1 ≤ (q3 D p).num) && decide (a + (q3 D p).num ≤ fr) && !(L.any fun y => decide (y.id = (q1 D p).txt))
/-- The directory's lines, from a place on. -/
def prs (D pk : ByteArray) (fr : Nat) : Nat → Nat → Nat → List IT → Option (Nat × Nat × List IT)
  | 0, p, a, L => some (p, a, L)
  | m + 1, p, a, L => if okL D fr p a L = true then prs D pk fr m (p4' D p) (a + (q3 D p).num) (L ++ [itR D pk p a]) else none
def okP (s : ByteArray) : Bool := decide (s.size ≤ 65536) && decide (14 ≤ s.size) && decide (s.extract 0 5 = hd5) && decide (s.extract (s.size - 4) s.size = tl4) && decide (Zq.Nm.numOf (s.extract (s.size - 8) (s.size - 4)).data.toList ≤ s.size - 13)
def lgP (s : ByteArray) : Nat := Zq.Nm.numOf (s.extract (s.size - 8) (s.size - 4)).data.toList
def frP (s : ByteArray) : Nat := s.size - 8 - lgP s
def drP (s : ByteArray) : ByteArray := s.extract (frP s) (s.size - 8)
def q0 (s : ByteArray) : Zq.Nm.Ah := Zq.Nm.asked 0 (Zq.Nm.shortA (drP s) 0 4096)
/-- What bytes are as a pack. -/
def parP (s : ByteArray) : Option (List IT) :=
  if okP s = true then
    (if (q0 s).code = 0 then
      (match prs (drP s) (dgB s) (frP s) (q0 s).num (q0 s).long 5 [] with
      | some (p, a, L) => if p = (drP s).size ∧ a = frP s then some L else none
      | none => none)
    else none)
  else none
def itL (o : Option (List IT)) : List IT := match o with | some l => l | none => []
def itC (o : Option (List IT)) : Int := match o with | some _ => 0 | none => 140
theorem asked_le' {s : ByteArray} {p : Nat} {x : Int} {B : Zq.Nm.Ah} (hp : p ≤ s.size) (h : Zq.Nm.AhOk s p B) : p + (Zq.Nm.asked x B).long ≤ s.size := by
  unfold Zq.Nm.asked
  split
  · rcases h with ⟨_, h⟩ | ⟨c, _, rfl⟩
    · exact h
    · exact hp
  · exact hp
section
variable {D : ByteArray} {p : Nat}
theorem q_le (h : p ≤ D.size) : p1' D p ≤ D.size ∧ p2' D p ≤ D.size ∧ p3' D p ≤ D.size ∧ p4' D p ≤ D.size := by
  have h1 : p1' D p ≤ D.size := asked_le' h (Zq.Nm.bytesA_ok _ _ _)
  have h2 : p2' D p ≤ D.size := asked_le' h1 (Zq.Nm.fixedA_ok _ _ _)
  have h3 : p3' D p ≤ D.size := asked_le' h2 (Zq.Nm.shortA_ok _ _ _ h2)
  exact ⟨h1, h2, h3, asked_le' h3 (Zq.Nm.shortA_ok _ _ _ h3)⟩
theorem asked_code {x : Int} {A : Zq.Nm.Ah} (h : (Zq.Nm.asked x A).code = 0) : x = 0 ∧ Zq.Nm.asked x A = A := by
  by_cases hx : x = 0
  · subst hx; exact ⟨rfl, Zq.Nm.asked_zero A⟩
  · rw [Zq.Nm.asked_some hx] at h
    exact absurd h hx
/-- A line that is read. -/
theorem q_ok (h : (q4 D p).code = 0) : (q1 D p).code = 0 ∧ (q2 D p).code = 0 ∧ (q3 D p).code = 0 := by
  obtain ⟨h3, _⟩ := asked_code h
  obtain ⟨h2, _⟩ := asked_code h3
  obtain ⟨h1, _⟩ := asked_code h2
  exact ⟨h1, h2, h3⟩
theorem q2_lt (D : ByteArray) (p : Nat) : (q2 D p).num < 256 := by
  rw [q2]
  unfold Zq.Nm.asked
  split
  · unfold Zq.Nm.fixedA
    split
    · exact Nat.zero_lt_succ _
    · split
      · exact Nat.zero_lt_succ _
      · refine Nat.lt_of_lt_of_le (Zq.Nm.numOf_lt _) (show 256 ^ _ ≤ 256 ^ 1 from Nat.pow_le_pow_right (by decide) ?_)
        rw [li_size, ByteArray.size_extract]
        omega
  · exact Nat.zero_lt_succ _
theorem short_num_le (s : ByteArray) (p : Nat) (h : p ≤ s.size) (x : Int) : (Zq.Nm.asked x (Zq.Nm.shortA s p 65536)).num ≤ 65536 := by
  unfold Zq.Nm.asked
  split
  · rcases Zq.Nm.shortA_cases s p 65536 h with ⟨c, hc, e⟩ | ⟨n, l, e, a1, a2, a3⟩
    · rw [e]; exact Nat.zero_le _
    · rw [e]; show n ≤ 65536; omega
  · exact Nat.zero_le _
theorem q3_le (h : p ≤ D.size) : (q3 D p).num ≤ 65536 := short_num_le D _ (q_le h).2.1 _
theorem q4_le (h : p ≤ D.size) : (q4 D p).num ≤ 65536 := short_num_le D _ (q_le h).2.2.1 _
end
theorem lg_lt (s : ByteArray) (h : 14 ≤ s.size) : lgP s < 4294967296 := by
  refine Nat.lt_of_lt_of_le (Zq.Nm.numOf_lt _) ?_
  have : (s.extract (s.size - 8) (s.size - 4)).data.toList.length = 4 := by rw [li_size, ByteArray.size_extract]; omega
  rw [this]
  decide
theorem okP_iff {s : ByteArray} : okP s = true ↔ s.size ≤ 65536 ∧ 14 ≤ s.size ∧ s.extract 0 5 = hd5 ∧ s.extract (s.size - 4) s.size = tl4 ∧ lgP s ≤ s.size - 13 := by
  simp only [okP, lgP, Bool.and_eq_true, decide_eq_true_eq, and_assoc]
/-- What the directory is. -/
theorem okP_dir {s : ByteArray} (h : okP s = true) : 5 ≤ frP s ∧ frP s ≤ s.size - 8 ∧ (drP s).size = lgP s ∧ frP s + lgP s = s.size - 8 := by
  obtain ⟨h1, h2, _, _, h5⟩ := okP_iff.1 h
  have : frP s = s.size - 8 - lgP s := rfl
  refine ⟨by omega, by omega, ?_, by omega⟩
  rw [drP, ByteArray.size_extract]
  omega
theorem bad_ne {c : Int} {m g : Nat} {P : Prop} (hc : c ≠ 0) (h : Zq.Nm.Ah.bad c = ⟨m, ⟨#[]⟩, g, 0⟩) : P := absurd (congrArg Zq.Nm.Ah.code h) hc
theorem go_pos (most : Int) : ∀ (f i n : Nat) (l : List UInt8) (m g : Nat), 0 < i → Zq.Nm.shortGo most f i n l = ⟨m, ⟨#[]⟩, g, 0⟩ → 0 < m
  | 0, _, _, _, _, _, _, h => by rw [Zq.Nm.shortGo] at h; exact bad_ne (by decide) h
  | f + 1, i, n, [], _, _, _, h => by rw [Zq.Nm.shortGo] at h; exact bad_ne (by decide) h
  | f + 1, i, n, c :: r, m, g, hi, h => by
    rw [Zq.Nm.shortGo] at h
    by_cases h1 : 128 ≤ c.toNat
    · rw [if_pos h1] at h
      exact go_pos most f (i + 1) _ r m g (by omega) h
    · rw [if_neg h1] at h
      by_cases h2 : c.toNat = 0 ∧ 0 < i
      · rw [if_pos h2] at h; exact bad_ne (by decide) h
      · rw [if_neg h2] at h
        split at h
        · exact bad_ne (by decide) h
        · have e := congrArg Zq.Nm.Ah.num h
          have e2 : n + c.toNat % 128 * 2 ^ (7 * i) = m := e
          have hc : 0 < c.toNat % 128 := by omega
          have := Nat.mul_pos hc (Nat.pow_pos (n := 7 * i) (show 0 < 2 by decide))
          omega
theorem short_zero {s : ByteArray} {p l : Nat} {most : Int} (h : Zq.Nm.shortA s p most = ⟨0, ⟨#[]⟩, l, 0⟩) : l = 1 := by
  rw [Zq.Nm.shortA] at h
  match hl : s.data.toList.drop p with
  | [] => rw [hl, Zq.Nm.shortGo] at h; exact bad_ne (by decide) h
  | c :: r =>
    rw [hl, Zq.Nm.shortGo] at h
    by_cases h1 : 128 ≤ c.toNat
    · rw [if_pos h1] at h
      exact absurd (go_pos most 8 1 _ r 0 l (by decide) h) (by decide)
    · rw [if_neg h1, if_neg (by omega)] at h
      split at h
      · exact bad_ne (by decide) h
      · exact (congrArg Zq.Nm.Ah.long h).symm
theorem prs_len {D pk : ByteArray} {fr : Nat} : ∀ (m p a : Nat) (L : List IT) {p' a' : Nat} {L' : List IT}, prs D pk fr m p a L = some (p', a', L') → L'.length = L.length + m
  | 0, p, a, L, p', a', L', h => by
    rw [prs] at h
    simp only [Option.some.injEq, Prod.mk.injEq] at h
    rw [← h.2.2]; rfl
  | m + 1, p, a, L, p', a', L', h => by
    rw [prs] at h
    split at h
    · have := prs_len m _ _ _ h
      rw [this, List.length_append, List.length_singleton]
      omega
    · cases h
/-- A pack of no items is short. -/
theorem par_nil {s : ByteArray} (h : parP s = some []) : s.size = 14 := by
  rw [parP] at h
  by_cases h1 : okP s = true
  · rw [if_pos h1] at h
    obtain ⟨g1, g2, g3, g4⟩ := okP_dir h1
    obtain ⟨j1, j2, _⟩ := okP_iff.1 h1
    by_cases h2 : (q0 s).code = 0
    · rw [if_pos h2] at h
      obtain ⟨_, e0⟩ := asked_code h2
      rcases Zq.Nm.shortA_cases (drP s) 0 4096 (Nat.zero_le _) with ⟨c, hc, e⟩ | ⟨n, l, e, a1, a2, a3⟩
      · rw [q0, e0, e] at h2
        exact absurd h2 hc
      · have eq0 : q0 s = ⟨n, ⟨#[]⟩, l, 0⟩ := by rw [q0, e0, e]
        rw [eq0] at h
        match hp : prs (drP s) (dgB s) (frP s) n l 5 [] with
        | none => simp only [hp] at h; cases h
        | some (p, a, L) =>
          simp only [hp] at h
          split at h
          · rename_i hpa
            simp only [Option.some.injEq] at h
            subst h
            have hn := prs_len _ _ _ _ hp
            simp only [List.length_nil, Nat.zero_add] at hn
            subst hn
            rw [prs] at hp
            simp only [Option.some.injEq, Prod.mk.injEq] at hp
            have := short_zero e
            omega
          · cases h
    · rw [if_neg h2] at h; cases h
  · rw [if_neg h1] at h; cases h
end Go.Proofs.YtcidfkkgpehodaaDoor

namespace Go.Proofs.YtcidfkkgpehodaaDoor
open Go.RowKit Go.Lib
theorem ap_nil (a : ByteArray) : a ++ (⟨#[]⟩ : ByteArray) = a := ba_ext (by rw [ap_list]; exact List.append_nil _)
theorem nil_ap (a : ByteArray) : (⟨#[]⟩ : ByteArray) ++ a = a := ba_ext (by rw [ap_list]; rfl)
theorem sz_nil : (⟨#[]⟩ : ByteArray).size = 0 := rfl
theorem smB_size (n : Nat) (h : n ≤ 9223372036854775807) : (smB n).size ≤ 9 ∧ (smB n).size = (uvarint n).length := by
  have := Zq.Nm.uvarint_nine (x := n) h
  rw [smB, Zq.Nm.strOf_size]
  exact ⟨this, rfl⟩
theorem smB_list (n : Nat) : (smB n).data.toList = uvarint n := by rw [smB, Zq.Nm.strOf]
theorem line_list (x : BE) : (lineB x).data.toList = x.id.data.toList ++ (UInt8.ofNat x.kind :: (uvarint x.s.size ++ uvarint x.size)) := by
  rw [lineB, ap_list, ap_list, ap_list, smB_list, smB_list]
  simp [b1]
theorem lines_snoc : ∀ (l : List BE) (x : BE), linesB (l ++ [x]) = linesB l ++ lineB x
  | [], x => by rw [List.nil_append, linesB, linesB, linesB, ap_nil, nil_ap]
  | y :: r, x => by rw [List.cons_append, linesB, linesB, lines_snoc r x, ByteArray.append_assoc]
theorem blb_snoc : ∀ (l : List BE) (x : BE), blbB (l ++ [x]) = blbB l ++ x.s
  | [], x => by rw [List.nil_append, blbB, blbB, blbB, ap_nil, nil_ap]
  | y :: r, x => by rw [List.cons_append, blbB, blbB, blb_snoc r x, ByteArray.append_assoc]
theorem its_len (pk : ByteArray) : ∀ (a : Nat) (l : List BE), (itsB pk a l).length = l.length
  | _, [] => rfl
  | a, _ :: r => by rw [itsB, List.length_cons, its_len pk _ r, List.length_cons]
theorem its_snoc (pk : ByteArray) : ∀ (a : Nat) (l : List BE) (x : BE), itsB pk a (l ++ [x]) = itsB pk a l ++ [⟨x.id, pk, (x.kind : Int), ((a + (blbB l).size : Nat) : Int), (x.s.size : Int), (x.size : Int)⟩]
  | a, [], x => by simp [itsB, blbB, sz_nil]
  | a, y :: r, x => by
    rw [List.cons_append, itsB, itsB, its_snoc pk _ r x, List.cons_append, blbB, ba_add, Nat.add_assoc]
theorem its_get (pk : ByteArray) : ∀ (a : Nat) (l : List BE) (i : Nat) (x : BE), l[i]? = some x → (itsB pk a l)[i]? = some ⟨x.id, pk, (x.kind : Int), ((a + (blbB (l.take i)).size : Nat) : Int), (x.s.size : Int), (x.size : Int)⟩
  | a, y :: r, 0, x, h => by
    simp only [List.getElem?_cons_zero, Option.some.injEq] at h
    subst h
    simp [itsB, blbB, sz_nil]
  | a, y :: r, i + 1, x, h => by
    rw [List.getElem?_cons_succ] at h
    rw [itsB, List.getElem?_cons_succ, its_get pk _ r i x h, List.take_succ_cons, blbB, ba_add, Nat.add_assoc]
/-- Blobs that may be. -/
def OkB (x : BE) : Prop := x.id.size = 32 ∧ (x.kind = 1 ∨ x.kind = 2) ∧ 1 ≤ x.s.size ∧ x.s.size ≤ 65536 ∧ x.size ≤ 65536
theorem line_read {D : ByteArray} {p : Nat} {x : BE} {R : List UInt8} (hx : OkB x) (hp : p ≤ D.size) (h : D.data.toList.drop p = (lineB x).data.toList ++ R) :
    q1 D p = ⟨0, x.id, 32, 0⟩ ∧ q2 D p = ⟨x.kind, ⟨#[]⟩, 1, 0⟩ ∧ q3 D p = ⟨x.s.size, ⟨#[]⟩, (uvarint x.s.size).length, 0⟩ ∧ q4 D p = ⟨x.size, ⟨#[]⟩, (uvarint x.size).length, 0⟩ ∧ p4' D p = p + (lineB x).size ∧ D.data.toList.drop (p + (lineB x).size) = R ∧ p + (lineB x).size ≤ D.size := by
  obtain ⟨h1, h2, h3, h4, h5⟩ := hx
  have hz : (lineB x).size = 32 + 1 + (uvarint x.s.size).length + (uvarint x.size).length := by
    rw [← li_size, line_list, List.length_append, List.length_cons, List.length_append, li_size, h1]
    omega
  have hl : p + (lineB x).size ≤ D.size := by
    have e := congrArg List.length h
    rw [List.length_drop, List.length_append, li_size, li_size] at e
    omega
  have hd5' : D.data.toList.drop (p + (lineB x).size) = R := by
    rw [← List.drop_drop, h, ← li_size (lineB x), List.drop_left]
  rw [line_list] at h
  have hd1 : D.data.toList.drop (p + 32) = UInt8.ofNat x.kind :: (uvarint x.s.size ++ uvarint x.size ++ R) := by
    rw [← List.drop_drop, h, List.append_assoc, ← h1, ← li_size x.id, List.drop_left]
    simp
  have hd2 : D.data.toList.drop (p + 32 + 1) = uvarint x.s.size ++ (uvarint x.size ++ R) := by
    rw [← List.drop_drop, hd1]
    simp
  have hd3 : D.data.toList.drop (p + 32 + 1 + (uvarint x.s.size).length) = uvarint x.size ++ R := by
    rw [← List.drop_drop, hd2, List.drop_left]
  have e1 : q1 D p = ⟨0, x.id, 32, 0⟩ := by
    have hid : D.extract p (p + 32) = x.id := by
      apply ba_ext
      rw [ex_list, h, show p + 32 - p = x.id.data.toList.length by rw [li_size, h1]; omega, List.append_assoc, List.take_left]
    rw [q1, Zq.Nm.asked_zero, Zq.Nm.bytesA, if_neg (by omega), if_neg (by omega)]
    show (⟨0, D.extract p (p + 32), 32, 0⟩ : Zq.Nm.Ah) = _
    rw [hid]
  have f1 : p1' D p = p + 32 := by rw [p1', e1]
  have e2 : q2 D p = ⟨x.kind, ⟨#[]⟩, 1, 0⟩ := by
    have hk : Zq.Nm.numOf (D.extract (p + 32) (p + 32 + 1)).data.toList = x.kind := by
      rw [ex_list, hd1, show p + 32 + 1 - (p + 32) = 1 by omega, List.take_succ_cons, List.take_zero, Zq.Nm.numOf, List.foldl_cons, List.foldl_nil, UInt8.toNat_ofNat']
      omega
    rw [q2, e1, f1]
    show Zq.Nm.asked 0 _ = _
    rw [Zq.Nm.asked_zero, Zq.Nm.fixedA, if_neg (by omega), if_neg (by omega)]
    show (⟨Zq.Nm.numOf (D.extract (p + 32) (p + 32 + 1)).data.toList, ⟨#[]⟩, 1, 0⟩ : Zq.Nm.Ah) = _
    rw [hk]
  have f2 : p2' D p = p + 32 + 1 := by rw [p2', f1, e2]
  have e3 : q3 D p = ⟨x.s.size, ⟨#[]⟩, (uvarint x.s.size).length, 0⟩ := by
    rw [q3, e2, f2]
    show Zq.Nm.asked 0 _ = _
    rw [Zq.Nm.asked_zero, Zq.Nm.shortA_write D _ x.s.size 65536 _ hd2 (by omega) (by omega)]
  have f3 : p3' D p = p + 32 + 1 + (uvarint x.s.size).length := by rw [p3', f2, e3]
  have e4 : q4 D p = ⟨x.size, ⟨#[]⟩, (uvarint x.size).length, 0⟩ := by
    rw [q4, e3, f3]
    show Zq.Nm.asked 0 _ = _
    rw [Zq.Nm.asked_zero, Zq.Nm.shortA_write D _ x.size 65536 _ hd3 (by omega) (by omega)]
  have f4 : p4' D p = p + (lineB x).size := by
    rw [p4', f3, e4, hz]
    show p + 32 + 1 + (uvarint x.s.size).length + (uvarint x.size).length = _
    omega
  exact ⟨e1, e2, e3, e4, f4, hd5', hl⟩
/-- No two ids are the same. -/
def Apart : List IT → List BE → Prop
  | _, [] => True
  | L, x :: r => (∀ y ∈ L, y.id ≠ x.id) ∧ ∀ (it : IT), it.id = x.id → Apart (L ++ [it]) r
theorem prs_ok {D pk : ByteArray} {fr : Nat} : ∀ (l : List BE) (p a : Nat) (L : List IT) (R : List UInt8), (∀ x ∈ l, OkB x) → Apart L l → p ≤ D.size → D.data.toList.drop p = (linesB l).data.toList ++ R → a + (blbB l).size ≤ fr →
    prs D pk fr l.length p a L = some (p + (linesB l).size, a + (blbB l).size, L ++ itsB pk a l)
  | [], p, a, L, R, _, _, _, _, _ => by rw [List.length_nil, prs, linesB, blbB, itsB, sz_nil, List.append_nil]; rfl
  | x :: r, p, a, L, R, hx, hA, hp, hd, ha => by
    rw [linesB, ap_list, List.append_assoc] at hd
    obtain ⟨e1, e2, e3, e4, f4, g1, g2⟩ := line_read (hx x List.mem_cons_self) hp hd
    rw [blbB, ba_add] at ha
    have hxx := hx x List.mem_cons_self
    have hok : okL D fr p a L = true := by
      have k1 : (L.any fun y => decide (y.id = x.id)) = false := by
        rw [List.any_eq_false]
        intro y hy
        simpa using hA.1 y hy
      have k2 : kn (x.kind : Int) = true := kn_iff.2 (by rcases hxx.2.1 with h | h <;> omega)
      have k3 : decide (1 ≤ x.s.size) = true := decide_eq_true hxx.2.2.1
      have k4 : decide (a + x.s.size ≤ fr) = true := decide_eq_true (by omega)
      rw [okL, e1, e2, e3, e4]
      show (decide ((0 : Int) = 0) && kn (x.kind : Int) && decide (1 ≤ x.s.size) && decide (a + x.s.size ≤ fr) && !(L.any fun y => decide (y.id = x.id))) = true
      rw [k1, k2, k3, k4]
      rfl
    rw [List.length_cons, prs, if_pos hok, f4, e3]
    have hit : itR D pk p a = ⟨x.id, pk, (x.kind : Int), (a : Int), (x.s.size : Int), (x.size : Int)⟩ := by rw [itR, e1, e2, e3, e4]
    show prs D pk fr r.length (p + (lineB x).size) (a + x.s.size) (L ++ [itR D pk p a]) = _
    rw [hit, prs_ok r _ _ _ R (fun y hy => hx y (List.mem_cons_of_mem _ hy)) (hA.2 _ rfl) g2 g1 (by omega), linesB, blbB, itsB, ba_add, ba_add, Nat.add_assoc, Nat.add_assoc, List.append_assoc, List.singleton_append]
theorem hd5_size : hd5.size = 5 := rfl
theorem tl4_size : tl4.size = 4 := rfl
theorem fxB_size (n k : Nat) : (fxB n k).size = k := by rw [fxB, Zq.Nm.strOf_size, Zq.Nm.fixedOf_length]
theorem fx_num (n : Nat) (h : n < 4294967296) : Zq.Nm.numOf (fxB n 4).data.toList = n := by
  have e : (fxB n 4).data.toList = Zq.Nm.fixedOf n 4 := by rw [fxB, Zq.Nm.strOf]
  have c : ∀ m : Nat, (m % 256).toUInt8.toNat = m % 256 := fun m => toUInt8_toNat (by omega)
  rw [e]
  simp only [Zq.Nm.fixedOf, Zq.Nm.numOf, List.foldl_cons, List.foldl_nil, c]
  omega
theorem mid_ext {A B C : ByteArray} : (A ++ B ++ C).extract A.size (A.size + B.size) = B := by
  apply ba_ext
  rw [ex_list, ap_list, ap_list, List.append_assoc, ← li_size A, List.drop_left, Nat.add_sub_cancel_left, ← li_size B, List.take_left]
theorem paT_size (l : List BE) : (paT l).size = 5 + (blbB l).size + (dirB l).size + 8 := by
  rw [paT, ba_add, ba_add, ba_add, ba_add, fxB_size, hd5_size, tl4_size]
theorem ids_apart : ∀ (l : List BE) (L : List IT), l.Pairwise (fun x y => x.id ≠ y.id) → (∀ x ∈ l, ∀ y ∈ L, y.id ≠ x.id) → Apart L l
  | [], _, _, _ => trivial
  | x :: r, L, h, hL => by
    rw [List.pairwise_cons] at h
    refine ⟨fun y hy => hL x List.mem_cons_self y hy, fun it hit => ids_apart r _ h.2 fun z hz y hy => ?_⟩
    rcases List.mem_append.1 hy with hy | hy
    · exact hL z (List.mem_cons_of_mem _ hz) y hy
    · rw [List.mem_singleton] at hy
      subst hy
      rw [hit]
      exact h.1 z hz
/-- A pack that was written is read. -/
theorem par_ok {l : List BE} (hl : ∀ x ∈ l, OkB x) (hd : l.Pairwise (fun x y => x.id ≠ y.id)) (hn : l.length ≤ 4096) (hz : (paT l).size ≤ 65536) : parP (paT l) = some (itsB (dgB (paT l)) 5 l) := by
  have hps := paT_size l
  have hN : (dirB l).size = (uvarint l.length).length + (linesB l).size := by rw [dirB, ba_add, (smB_size _ (by omega)).2]
  have hpos := uvarint_pos l.length
  have h1 : (paT l).extract 0 5 = hd5 := by
    apply ba_ext
    rw [ex_list, paT, ap_list, ap_list, ap_list, ap_list, List.append_assoc, List.append_assoc, List.append_assoc, List.drop_zero]
    rfl
  have h2 : (paT l).extract ((paT l).size - 4) (paT l).size = tl4 := by
    rw [show (paT l).size - 4 = (hd5 ++ blbB l ++ dirB l ++ fxB (dirB l).size 4).size by rw [hps, ba_add, ba_add, ba_add, fxB_size, hd5_size]; omega]
    exact ext_right _ _
  have h3 : lgP (paT l) = (dirB l).size := by
    rw [lgP, show (paT l).size - 8 = (hd5 ++ blbB l ++ dirB l).size by rw [hps, ba_add, ba_add, hd5_size]; omega, show (paT l).size - 4 = (hd5 ++ blbB l ++ dirB l).size + (fxB (dirB l).size 4).size by rw [hps, ba_add, ba_add, hd5_size, fxB_size]; omega, paT, mid_ext, fx_num _ (by omega)]
  have hok : okP (paT l) = true := okP_iff.2 ⟨hz, by omega, h1, h2, by omega⟩
  have hfr : frP (paT l) = 5 + (blbB l).size := by rw [frP, h3, hps]; omega
  have hdr : drP (paT l) = dirB l := by
    rw [drP, hfr, show 5 + (blbB l).size = (hd5 ++ blbB l).size by rw [ba_add, hd5_size], show (paT l).size - 8 = (hd5 ++ blbB l).size + (dirB l).size by rw [hps, ba_add, hd5_size]; omega, paT, ByteArray.append_assoc (a := hd5 ++ blbB l ++ dirB l), mid_ext]
  have hdl : (dirB l).data.toList = uvarint l.length ++ (linesB l).data.toList := by rw [dirB, ap_list, smB_list]
  have h0 : q0 (paT l) = ⟨l.length, ⟨#[]⟩, (uvarint l.length).length, 0⟩ := by
    rw [q0, Zq.Nm.asked_zero, hdr, Zq.Nm.shortA_write (dirB l) 0 l.length 4096 (linesB l).data.toList (by rw [List.drop_zero, hdl]) (by omega) (by omega)]
  rw [parP, if_pos hok, if_pos (by rw [h0]), h0, hdr, hfr]
  have hp := prs_ok (D := dirB l) (pk := dgB (paT l)) (fr := 5 + (blbB l).size) l (uvarint l.length).length 5 [] [] hl (ids_apart l [] hd fun _ _ _ hy => nomatch hy) (by omega) (by rw [hdl, List.drop_left, List.append_nil]) (by omega)
  simp only [hp]
  rw [if_pos ⟨by omega, trivial⟩, List.nil_append]
end Go.Proofs.YtcidfkkgpehodaaDoor

namespace Go.Proofs.YtcidfkkgpehodaaDoor.Bl
open Go.RowKit Go.Lib
open Go.Proofs.YtcidfkkgpehodaaDoor.Zq.Sh (strOf heap_set_list)
def BR (w : World) (g : Nat) (L : List UInt8) : Prop := ∃ (Z : List Value) (fr : Nat × Nat), w.heap[g]? = some (.cells (byteCells L ++ Z).toArray 5 fr) ∧ ∀ j, j < L.length → w.frozen? ⟨g, j, none⟩ = false
section
variable {w w' : World} {g : Nat} {L : List UInt8}
theorem BR.lt (h : BR w g L) : g < w.heap.size := by obtain ⟨_, _, h, _⟩ := h; exact lt_of_block h
theorem BR.cell (h : BR w g L) (j : Nat) (x : UInt8) (hx : L[j]? = some x) : w.cell? ⟨g, j, none⟩ = some (.int .u8 ((x.toNat : Nat) : Int)) := by
  obtain ⟨Z, fr, h, _⟩ := h
  have hj := (List.getElem?_eq_some_iff.1 hx).1
  rw [cell_of_row w g j _ _ _ h, List.getElem?_toArray, List.getElem?_append_left (by rw [byteCells_length]; exact hj), byteCells, List.getElem?_map, hx]
  rfl
theorem BR.free (h : BR w g L) (j : Nat) (hj : j < L.length) : w.frozen? ⟨g, j, none⟩ = false := by obtain ⟨_, _, _, h⟩ := h; exact h j hj
theorem BR.of_block (h : BR w g L) (hb : w'.heap[g]? = w.heap[g]?) : BR w' g L := by
  obtain ⟨Z, fr, h1, h2⟩ := h
  exact ⟨Z, fr, hb.trans h1, fun j hj => (World.frozen?_of_block (a := ⟨g, j, none⟩) hb).trans (h2 j hj)⟩
theorem BR.drewN (h : BR w g L) (n : Nat) : BR (w.drewN n) g L := h
theorem BR.drew (h : BR w g L) : BR w.drew g L := h
theorem BR.set (h : BR w g L) (j : Nat) (hj : j < L.length) (x : UInt8) : BR (w.setCell ⟨g, j, none⟩ (.int .u8 ((x.toNat : Nat) : Int))) g (L.set j x) := by
  obtain ⟨Z, fr, h1, h2⟩ := h
  refine ⟨Z, fr, ?_, fun k hk => ?_⟩
  · rw [heap_set_list _ h1, List.set_append_left _ _ (by rw [byteCells_length]; exact hj), byteCells, byteCells, List.map_set]
  · have := h2 k (by simpa using hk)
    simp [this]
theorem BR.str (h : BR w g L) (cap : Nat) : (convert 58 9 (.slice (some ⟨g, 0, none⟩) L.length cap)).run Tryd.prog w = .ok (.string (strOf L)) w := by
  refine run_convert_bytes_back w 58 9 5 ⟨g, 0, none⟩ cap L Tryd.underlying58 Tryd.underlying5 Tryd.underlying9 (fun j hj => ?_)
  rw [Addr.add_mid, Nat.zero_add]
  exact h.cell j _ (List.getElem?_eq_getElem hj)
theorem BR.str_all (h : BR w g L) (cap n : Nat) (hn : n = L.length) : (convert 58 9 (.slice (some ⟨g, 0, none⟩) n cap)).run Tryd.prog w = .ok (.string (strOf L)) w := by subst hn; exact h.str cap
/-- A row that was made. -/
theorem BR.turned (s : ByteArray) (cap : Nat) (fr : Nat × Nat) (hs : s.size ≤ cap) (hfr : fr.1 = (bytesRow s cap).size) (h : w.heap[g]? = some (.cells (bytesRow s cap) 5 fr)) : BR w g s.data.toList := by
  have e : bytesRow s cap = (byteCells s.data.toList ++ List.replicate (cap - s.size) (Value.int .u8 0)).toArray := by
    apply Array.toList_inj.1
    simp [bytesRow, byteCells]
  have hz : (bytesRow s cap).size = cap := by simp [bytesRow]; omega
  refine ⟨List.replicate (cap - s.size) (.int .u8 0), fr, by rw [← e]; exact h, fun j hj => ?_⟩
  have hj' : j < cap := by rw [← Lib.size_eq] at hj; omega
  simp [World.frozen?, h]
  intro h1
  omega
end
end Go.Proofs.YtcidfkkgpehodaaDoor.Bl
namespace Go.Proofs.YtcidfkkgpehodaaDoor
open Go.RowKit Go.Lib
/-- A byte of a list, with its lowest bit turned. -/
def flp (L : List UInt8) (j : Nat) : List UInt8 := L.set j (L.getD j 0 ^^^ 1)
theorem xor_ne (x : UInt8) : ¬ x ^^^ 1 = x := fun e => by
  have h : x ^^^ (x ^^^ 1) = 0 := by rw [e, UInt8.xor_self]
  rw [← UInt8.xor_assoc, UInt8.xor_self, UInt8.zero_xor] at h
  exact absurd h (by decide)
theorem flp_ne {L : List UInt8} {j : Nat} (h : j < L.length) : ¬ flp L j = L := fun e => by
  have h1 := congrArg (fun l => l.getD j 0) e
  simp only [flp] at h1
  rw [List.getD_eq_getElem?_getD, List.getElem?_set_self h, Option.getD_some] at h1
  exact xor_ne _ h1
theorem flp_len (L : List UInt8) (j : Nat) : (flp L j).length = L.length := List.length_set
/-- Its id, with a bit turned, is another one. -/
theorem id_flp {k : Nat} {t : ByteArray} {j : Nat} (h : j < 32) : ¬ idB k t = Zq.Sh.strOf (flp (idB k t).data.toList j) := fun e => by
  have h1 : (idB k t).data.toList.length = 32 := by rw [idB, Zq.Sh.strOf, Zq.Sh.digest_length]
  have h2 := congrArg (fun a : ByteArray => a.data.toList) e
  simp only [Zq.Sh.strOf] at h2
  exact flp_ne (by omega) h2.symm
theorem id_size (k : Nat) (t : ByteArray) : (idB k t).size = 32 := by rw [idB, Zq.Sh.strOf_size, Zq.Sh.digest_length]
theorem xor_lit : ∀ a : Fin 256, bits .xor .u8 (a.val : Int) 1 = (((UInt8.ofNat a.val) ^^^ 1).toNat : Int) := by decide +kernel
theorem xor_one (c : UInt8) : bits .xor .u8 (c.toNat : Int) 1 = ((c ^^^ 1).toNat : Int) := by
  have h := xor_lit ⟨c.toNat, c.toNat_lt⟩
  rw [UInt8.ofNat_toNat] at h
  exact h
theorem alloc_sz (w : World) (o : Obj) : w.heap.size + 1 = (w.alloc o).heap.size := (Array.size_push o).symm
theorem two_cells {w : World} {b : Nat} {v0 v1 : Value} {T : TypeId} (h : w.heap[b]? = some (.cells #[v0, v1] T (0, 0))) : w.cell? ⟨b, 0 + 0, none⟩ = some v0 ∧ w.cell? ⟨b, 0 + 1, none⟩ = some v1 := by simp [World.cell?, h]
/-- Two texts, made as a list. -/
theorem pieces_two (w : World) (a b : ByteArray) (T : TypeId) {n : Nat} (hn : n = w.heap.size) : Zq.Sh.Pieces (w.alloc (.cells #[.string a, .string b] T)) (.slice (some ⟨n, 0, none⟩) 2 2) [a, b] := by
  subst hn
  have h := heap_alloc_new w (.cells #[.string a, .string b] T)
  refine ⟨_, _, rfl, .inr ⟨w.heap.size, 0, rfl, lt_of_block h, fun k hk => ?_⟩⟩
  have hk2 : k = 0 ∨ k = 1 := by simp at hk; omega
  rcases hk2 with rfl | rfl
  · exact (two_cells h).1
  · exact (two_cells h).2
end Go.Proofs.YtcidfkkgpehodaaDoor

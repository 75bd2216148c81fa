/-
  Lz: what is written, read: the program's blocks are blocks; how long they are.
-/
import Derived.Test.YtgigiamnhjelmaaDoorLpMath
import Derived.Test.YtgigiamnhjelmaaDoorLzUnp
import Derived.Test.YtgigiamnhjelmaaDoorLzLaw5
namespace Go.Proofs.YtgigiamnhjelmaaDoor
theorem ba_eqL {a b : ByteArray} (h : a.data.toList = b.data.toList) : a = b := by
  cases a
  cases b
  congr 1
  exact Array.ext' h
section
variable {S : ByteArray} {A B C : List UInt8} {i n : Nat}
theorem bt_mid (h : S.data.toList = A ++ B) (hi : A.length = i) (k : Nat) : bt S (i + k) = (B.getD k 0).toNat := by
  rw [← bt_lst, h, List.getD_eq_getElem?_getD, List.getElem?_append_right (by omega), List.getD_eq_getElem?_getD, show i + k - A.length = k by omega]
theorem size_mid (h : S.data.toList = A ++ B) (hi : A.length = i) : S.size = i + B.length := by
  have := congrArg List.length h
  rw [List.length_append] at this
  rw [← hi, ← this]
  simp
theorem adS_len (n : Nat) : (adS n).length = if n < 15 then 0 else (n - 15) / 255 + 1 := by
  rw [adS]
  split
  · rfl
  · simp
theorem moG_rep (r : UInt8) (hr : r.toNat < 255) : ∀ (k i acc : Nat) (A : List UInt8), S.data.toList = A ++ (List.replicate k 255 ++ r :: C) → A.length = i → moG S (S.size - i) i acc = some (acc + 255 * k + r.toNat, i + k + 1)
  | 0, i, acc, A, h, hi => by
    have h1 := bt_mid h hi 0
    have h2 := size_mid h hi
    simp at h1 h2
    rw [moG_one (by omega) (by omega), h1]
    simp
  | k + 1, i, acc, A, h, hi => by
    have h1 := bt_mid h hi 0
    have h2 := size_mid h hi
    simp [List.replicate_succ] at h1 h2
    rw [moG_more (by omega) (by omega), h1, moG_rep r hr k (i + 1) _ (A ++ [255]) (by rw [h, List.replicate_succ]; simp) (by simp; omega)]
    simp
    omega
theorem mo_adS (h : S.data.toList = A ++ (adS n ++ C)) (hi : A.length = i) : mo S i (min n 15) = some (n, i + (adS n).length) := by
  rw [adS_len]
  by_cases c : n < 15
  · rw [mo_few (by omega), if_pos c, Nat.min_eq_left (by omega)]
    rfl
  · rw [Nat.min_eq_right (by omega), mo_on (by decide), if_neg c]
    rw [adS, if_neg c] at h
    have hr : (UInt8.ofNat ((n - 15) % 255)).toNat = (n - 15) % 255 := by rw [UInt8.toNat_ofNat']; omega
    rw [moG_rep (C := C) (UInt8.ofNat ((n - 15) % 255)) (by rw [hr]; omega) ((n - 15) / 255) i 15 A (by rw [h]; simp) hi, hr]
    simp
    omega
theorem hd1_nat (a b : Nat) : (hd1 a b).toNat = min a 15 * 16 + min b 15 := by rw [hd1, UInt8.toNat_ofNat']; omega
theorem ext_mid {L : ByteArray} (h : S.data.toList = A ++ (L.data.toList ++ C)) (hi : A.length = i) : S.extract i (i + L.size) = L := ba_eqL (by
  have e : L.data.toList.length = L.size := by simp
  rw [ByteArray.data_extract, Array.toList_extract, h]
  show List.take (i + L.size - i) (List.drop i _) = _
  rw [show i + L.size - i = L.data.toList.length by omega, ← hi, List.drop_left, List.take_left])
theorem enS_len (q : SQ) : (enS q).length = 1 + (adS q.lit.size).length + q.lit.size + (if q.long = 0 then 0 else 2 + (adS (q.long - 4)).length) := by
  have e : q.lit.data.toList.length = q.lit.size := by simp
  rw [enS, List.length_cons, List.length_append, List.length_append, e]
  split
  · simp; omega
  · simp; omega
theorem pq_en : ∀ (l : List SQ) (A : List UInt8) (i n : Nat), WS n l → S.data.toList = A ++ enL l → A.length = i → pq S i n = some (l, n + tot l)
  | [], _, _, _, h, _, _ => by cases h
  | q :: r, A, i, n, h, hs, hi => by
    have hs0 := hs
    rw [enL, List.flatMap_cons, enS] at hs
    have hs1 : S.data.toList = (A ++ [hd1 q.lit.size (q.long - 4)]) ++ (adS q.lit.size ++ (q.lit.data.toList ++ ((if q.long = 0 then [] else [UInt8.ofNat (q.dist % 256), UInt8.ofNat (q.dist / 256)] ++ adS (q.long - 4)) ++ r.flatMap enS))) := by rw [hs]; simp
    have hl1 : (A ++ [hd1 q.lit.size (q.long - 4)]).length = i + 1 := by simp; omega
    have hz1 := size_mid hs1 hl1
    have hb := bt_mid hs hi 0
    rw [Nat.add_zero, List.cons_append, List.getD_cons_zero, hd1_nat] at hb
    have m1 := mo_adS hs1 hl1
    have e1 : bt S i / 16 = min q.lit.size 15 := by omega
    have e2 : bt S i % 16 = min (q.long - 4) 15 := by omega
    rw [← e1] at m1
    obtain ⟨j, hj⟩ : ∃ j, j = i + 1 + (adS q.lit.size).length := ⟨_, rfl⟩
    rw [← hj] at m1
    have hs2 : S.data.toList = (A ++ [hd1 q.lit.size (q.long - 4)] ++ adS q.lit.size) ++ (q.lit.data.toList ++ ((if q.long = 0 then [] else [UInt8.ofNat (q.dist % 256), UInt8.ofNat (q.dist / 256)] ++ adS (q.long - 4)) ++ r.flatMap enS)) := by rw [hs1]; simp
    have hl2 : (A ++ [hd1 q.lit.size (q.long - 4)] ++ adS q.lit.size).length = j := by rw [List.length_append, hl1, hj]
    have hz2 := size_mid hs2 hl2
    have ez : q.lit.data.toList.length = q.lit.size := by simp
    rw [List.length_append, ez] at hz2
    have hx := ext_mid hs2 hl2
    rcases h with ⟨d0, l0, rfl⟩ | ⟨d1, d2, d3, d4, hr⟩
    · rw [if_pos l0] at hz2
      simp at hz2
      rw [pq_last (by omega) m1 (by omega) (by omega), if_pos (by rw [e2, l0]; rfl), hx]
      obtain ⟨ql, qd, qo⟩ := q
      simp only at d0 l0
      subst d0; subst l0
      simp [tot]
    · rw [if_neg (by omega)] at hs2 hz2
      have hs3 : S.data.toList = (A ++ [hd1 q.lit.size (q.long - 4)] ++ adS q.lit.size ++ q.lit.data.toList) ++ ([UInt8.ofNat (q.dist % 256), UInt8.ofNat (q.dist / 256)] ++ (adS (q.long - 4) ++ r.flatMap enS)) := by rw [hs2]; simp
      have hl3 : (A ++ [hd1 q.lit.size (q.long - 4)] ++ adS q.lit.size ++ q.lit.data.toList).length = j + q.lit.size := by rw [List.length_append, hl2, ez]
      have hs4 : S.data.toList = (A ++ [hd1 q.lit.size (q.long - 4)] ++ adS q.lit.size ++ q.lit.data.toList ++ [UInt8.ofNat (q.dist % 256), UInt8.ofNat (q.dist / 256)]) ++ (adS (q.long - 4) ++ r.flatMap enS) := by rw [hs3]; simp
      have hl4 : (A ++ [hd1 q.lit.size (q.long - 4)] ++ adS q.lit.size ++ q.lit.data.toList ++ [UInt8.ofNat (q.dist % 256), UInt8.ofNat (q.dist / 256)]).length = j + q.lit.size + 2 := by rw [List.length_append, hl3]; rfl
      have b0 := bt_mid hs3 hl3 0
      have b1 := bt_mid hs3 hl3 1
      have hz4 := size_mid hs4 hl4
      simp at b0 b1
      have hd : ds S (j + q.lit.size) = q.dist := by rw [ds, b0, b1]; omega
      have m2 := mo_adS hs4 hl4
      rw [← e2] at m2
      have hk : (A ++ enS q).length = j + q.lit.size + 2 + (adS (q.long - 4)).length := by
        rw [List.length_append, enS_len, if_neg (by omega), hi, hj]
        omega
      rw [pq_go (by omega) m1 (by omega) (by omega) (by omega) m2 (by rw [hd]; omega), hd, hx, show q.long - 4 + 4 = q.long by omega,
        pq_en r (A ++ enS q) _ _ hr (by rw [hs0, List.append_assoc]; rfl) hk]
      have et : tot (q :: r) = q.lit.size + q.long + tot r := by simp [tot]
      rw [et, show n + (q.lit.size + q.long + tot r) = n + q.lit.size + q.long + tot r by omega]
      rfl
theorem enL_len : ∀ (l : List SQ) (n : Nat), WS n l → 255 * (enL l).length ≤ 256 * tot l + 495
  | [], _, h => by cases h
  | q :: r, n, h => by
    have e : (enL (q :: r)).length = (enS q).length + (enL r).length := by rw [enL, List.flatMap_cons, List.length_append]; rfl
    have t : tot (q :: r) = q.lit.size + q.long + tot r := by simp [tot]
    rw [e, t, enS_len, adS_len, adS_len]
    rcases h with ⟨d0, l0, rfl⟩ | ⟨d1, d2, d3, d4, hr⟩
    · rw [if_pos l0]
      show 255 * (_ + 0) ≤ 256 * (_ + 0) + _
      split <;> omega
    · have := enL_len r _ hr
      rw [if_neg (by omega : ¬ q.long = 0)]
      split <;> split <;> omega
end
theorem pkB_list (s : ByteArray) : (pkB s).data.toList = enL (seG s s.size 0) := rfl
theorem pkB_size (s : ByteArray) : (pkB s).size = (enL (seG s s.size 0)).length := by rw [← pkB_list]; simp
theorem pkF : PackF pkB where
  back s _ := by
    obtain ⟨h1, h2⟩ := seG_ws (s := s) s.size 0 (Nat.zero_le _)
    refine ⟨seG s s.size 0, ?_, ?_⟩
    · rw [ps, pq_en (S := pkB s) _ [] 0 0 h1 (pkB_list s) rfl]
      rw [h2]
    · have := seG_opn (s := s) s.size 0 (Nat.zero_le _)
      rw [List.take_zero] at this
      rw [this]
  size s _ := by
    obtain ⟨h1, h2⟩ := seG_ws (s := s) s.size 0 (Nat.zero_le _)
    have := enL_len _ _ h1
    rw [pkB_size]
    omega
/-! ### What repeats itself -/
section
variable {s : ByteArray} {p : Nat}
/-- From p on each byte is the one p ahead. -/
def Per (s : ByteArray) (p : Nat) : Prop := 1 ≤ p ∧ p ≤ 64 ∧ ∀ i, p ≤ i → i < s.size → bt s i = bt s (i - p)
theorem Per.four (h : Per s p) {i : Nat} (hi : p ≤ i) (h4 : i + 4 ≤ s.size) : s4 s (i - p) i := by
  have e := fun k (hk : k < 4) => h.2.2 (i + k) (by omega) (by omega)
  have h1 := h.1
  refine ⟨?_, ?_, ?_, ?_⟩
  · have := e 0 (by decide); exact this.symm
  · have := e 1 (by decide); rw [this]; congr 1; omega
  · have := e 2 (by decide); rw [this]; congr 1; omega
  · have := e 3 (by decide); rw [this]; congr 1; omega
theorem Per.all (h : Per s p) {i : Nat} (hi : p ≤ i) : sm s (i - p) i = s.size - i := sm_all fun m hm => by
  rw [h.2.2 (i + m) (by omega) hm]; congr 1; omega
theorem loG_top {i : Nat} : ∀ (t : Nat) (o : Option Nat) (d l : Nat), l = s.size - i → (loG s i t o d l).2 = s.size - i
  | 0, _, _, _, h => h
  | t + 1, none, _, _, h => h
  | t + 1, some f, d, l, h => by
    rw [loG]
    have := sm_le (s := s) (j := f) (i := i)
    split
    · rw [if_neg (by omega)]
      exact loG_top t _ d l h
    · exact h
theorem loG_per (h : Per s p) {i : Nat} (hi : p ≤ i) (h4 : i + 4 ≤ s.size) : ∀ (t f d l : Nat), f < i → i - p ≤ f → s4 s f i → f - (i - p) < t → l ≤ s.size - i → (loG s i t (some f) d l).2 = s.size - i
  | 0, f, _, _, _, _, _, h4, _ => by omega
  | t + 1, f, d, l, h1, h2, h3, h5, h6 => by
    have hp := h.1
    have hp2 := h.2.1
    rw [loG, if_pos (by omega)]
    by_cases e : f = i - p
    · subst e
      rw [h.all hi]
      split
      · exact loG_top t _ _ _ rfl
      · exact loG_top t _ _ _ (by omega)
    · obtain ⟨g, g1, g2, g3, g4⟩ := pvG_max (s := s) (i := f) (k := f) (m := i - p) (by omega) ((h.four hi h4).trans h3.symm)
      have hg : pv s f = some g := by rw [pv, if_pos (by omega)]; exact g1
      rw [hg]
      have hsm := sm_le (s := s) (j := f) (i := i)
      split
      · exact loG_per h hi h4 t g _ _ (by omega) g2 (g4.trans h3) (by omega) hsm
      · exact loG_per h hi h4 t g _ _ (by omega) g2 (g4.trans h3) (by omega) h6
theorem lo_per (h : Per s p) {i : Nat} (hi : p ≤ i) (h4 : i + 4 ≤ s.size) : (lo s i).2 = s.size - i := by
  have hp := h.1
  have hp2 := h.2.1
  obtain ⟨g, g1, g2, g3, g4⟩ := pvG_max (s := s) (i := i) (k := i) (m := i - p) (by omega) (h.four hi h4)
  have hg : pv s i = some g := by rw [pv, if_pos h4]; exact g1
  rw [lo, hg]
  exact loG_per h hi h4 64 g 0 0 g3 g2 g4 (by omega) (Nat.zero_le _)
theorem lo_few {i : Nat} (h4 : ¬ i + 4 ≤ s.size) : (lo s i).2 = 0 := by rw [lo, pv_few h4]; rfl
/-- Once it repeats itself, the next repeat is all that is left. -/
theorem nxG_per (h : Per s p) {i : Nat} (hi : p ≤ i) (h4 : i + 4 ≤ s.size) (f : Nat) : nxG s f i (lo s i) = (i, lo s i) := by
  cases f with
  | zero => rfl
  | succ f =>
    rw [nxG]
    have e := lo_per h hi h4
    by_cases c : (lo s i).2 < 32 ∧ i < s.size
    · rw [if_pos c, if_pos]
      refine ⟨by omega, ?_⟩
      by_cases c2 : i + 1 + 4 ≤ s.size
      · rw [lo_per h (by omega) c2, e]; omega
      · rw [lo_few c2]; omega
    · rw [if_neg c]
/-- The next repeat begins at p at the latest. -/
theorem nxG_early (h : Per s p) (h4 : p + 4 ≤ s.size) : ∀ (f i : Nat), i ≤ p → p - i ≤ f → (nxG s f i (lo s i)).1 ≤ p
  | 0, i, h1, h2 => by show i ≤ p; omega
  | f + 1, i, h1, h2 => by
    by_cases e : i = p
    · subst e
      rw [nxG_per h (Nat.le_refl _) h4]
      exact Nat.le_refl _
    · rw [nxG]
      split
      · split
        · exact h1
        · exact nxG_early h h4 f (i + 1) (by omega) (by omega)
      · exact h1
theorem nxG_pos (h : Per s p) (h4 : p + 4 ≤ s.size) : ∀ (f i : Nat), i ≤ p → p - i ≤ f → 0 < (nxG s f i (lo s i)).2.2
  | 0, i, h1, h2 => by
    have e : i = p := by omega
    subst e
    show 0 < (lo s i).2
    rw [lo_per h (Nat.le_refl _) h4]
    omega
  | f + 1, i, h1, h2 => by
    by_cases e : i = p
    · subst e
      rw [nxG_per h (Nat.le_refl _) h4]
      show 0 < (lo s i).2
      rw [lo_per h (Nat.le_refl _) h4]
      omega
    · rw [nxG]
      split
      · split
        · rename_i c; exact c.1
        · exact nxG_pos h h4 f (i + 1) (by omega) (by omega)
      · rename_i c
        show 0 < (lo s i).2
        omega
theorem seG_end (h : Per s p) {i : Nat} (hi : p ≤ i) (hz : i ≤ s.size) : ∀ (f : Nat), s.size - i ≤ f → (enL (seG s f i)).length ≤ 5 + (s.size - i) / 255
  | f, hf => by
    have last : ∀ x y : Nat, x ≤ y → y ≤ s.size → y - x ≤ 3 → (enL [⟨s.extract x y, 0, 0⟩]).length ≤ 1 + (y - x) := fun x y h1 h2 h3 => by
      have e : (s.extract x y).size = y - x := by rw [ByteArray.size_extract]; omega
      rw [enL, List.flatMap_cons, List.flatMap_nil, List.append_nil, enS_len]
      show 1 + (adS (s.extract x y).size).length + (s.extract x y).size + (if 0 = 0 then 0 else _) ≤ _
      rw [e, adS_len, if_pos (by omega), if_pos rfl]
      omega
    cases f with
    | zero =>
      rw [seG]
      have := last i s.size hz (Nat.le_refl _) (by omega)
      omega
    | succ f =>
      rw [seG]
      by_cases h4 : i + 4 ≤ s.size
      · have hn : nx s i = (i, lo s i) := nxG_per h hi h4 _
        have e := lo_per h hi h4
        rw [hn]
        show (enL (if 0 < (lo s i).2 then _ else _)).length ≤ _
        rw [if_pos (by omega), enL, List.flatMap_cons, List.length_append, enS_len]
        show 1 + (adS (s.extract i i).size).length + (s.extract i i).size + (if (lo s i).2 = 0 then 0 else 2 + (adS ((lo s i).2 - 4)).length) + (enL (seG s f (i + (lo s i).2))).length ≤ _
        have ez : (s.extract i i).size = 0 := by rw [ByteArray.size_extract]; omega
        have hr : (enL (seG s f (i + (lo s i).2))).length ≤ 1 := by
          rw [e, show i + (s.size - i) = s.size by omega]
          have hl := last s.size s.size (Nat.le_refl _) (Nat.le_refl _) (by omega)
          have hx : (lo s s.size).2 = 0 := lo_few (by omega)
          have hq : nx s s.size = (s.size, lo s s.size) := by rw [nx, Nat.sub_self]; rfl
          cases f with
          | zero => rw [seG]; omega
          | succ f =>
            rw [seG, hq]
            show (enL (if 0 < (lo s s.size).2 then _ else _)).length ≤ _
            rw [if_neg (by omega)]
            omega
        rw [e] at hr
        rw [ez, e, adS_len, adS_len, if_neg (by omega : ¬ s.size - i = 0)]
        have k2 : (if s.size - i - 4 < 15 then 0 else (s.size - i - 4 - 15) / 255 + 1) ≤ 1 + (s.size - i) / 255 := by split <;> omega
        simp only [show (0 : Nat) < 15 by decide, if_true]
        omega
      · have hx : (nx s i).2.2 = 0 := by
          rw [nx_lo]
          have := (nx_is s i).2.1
          exact lo_few (by omega)
        rw [if_neg (by omega)]
        have := last i s.size hz (Nat.le_refl _) (by omega)
        omega
theorem seG_per (h : Per s p) (h4 : p + 4 ≤ s.size) : ∀ (f i : Nat), i ≤ p → s.size - i ≤ f → (enL (seG s f i)).length ≤ (p - i) + 12 + (s.size - i) / 255
  | 0, i, h1, h2 => by omega
  | f + 1, i, h1, h2 => by
    have hp2 := h.2.1
    have c : 0 < (nx s i).2.2 := nxG_pos h h4 _ i h1 (by omega)
    have ce : (nx s i).1 ≤ p := nxG_early h h4 _ i h1 (by omega)
    obtain ⟨r1, r2, r3, r4, r5, _⟩ := nx_rp c
    obtain ⟨_, n2, n3⟩ := nx_is s i
    obtain ⟨a, ha⟩ : ∃ a, a = (nx s i).1 := ⟨_, rfl⟩
    obtain ⟨l, hl⟩ : ∃ l, l = (nx s i).2.2 := ⟨_, rfl⟩
    have ez : (s.extract i a).size = a - i := by rw [ByteArray.size_extract, ha]; omega
    rw [seG, if_pos c, enL, List.flatMap_cons, List.length_append, enS_len]
    show 1 + (adS (s.extract i (nx s i).1).size).length + (s.extract i (nx s i).1).size + (if (nx s i).2.2 = 0 then 0 else 2 + (adS ((nx s i).2.2 - 4)).length) + (enL (seG s f ((nx s i).1 + (nx s i).2.2))).length ≤ _
    rw [← ha] at ce r4 r5 n2 n3 ⊢
    rw [← hl] at r1 r5 c ⊢
    rw [ez, adS_len, adS_len, if_neg (by omega : ¬ l = 0)]
    have k1 : (if a - i < 15 then 0 else (a - i - 15) / 255 + 1) ≤ 1 := by split <;> omega
    have k2 : (if l - 4 < 15 then 0 else (l - 4 - 15) / 255 + 1) ≤ 1 + l / 255 := by split <;> omega
    have k3 : (if l - 4 < 15 then 0 else (l - 4 - 15) / 255 + 1) ≤ l - 4 := by split <;> omega
    by_cases g : a + l < p
    · have := seG_per h h4 f (a + l) (by omega) (by omega)
      omega
    · have := seG_end h (i := a + l) (by omega) r5 f (by omega)
      omega
end
theorem pkP : PackP pkB := fun s d h1 h2 hs h => by
  rw [pkB_size]
  by_cases h4 : d + 4 ≤ s.size
  · have := seG_per ⟨h1, h2, h⟩ h4 s.size 0 (Nat.zero_le _) (by omega)
    omega
  · obtain ⟨g1, g2⟩ := seG_ws (s := s) s.size 0 (Nat.zero_le _)
    have := enL_len _ _ g1
    omega
end Go.Proofs.YtgigiamnhjelmaaDoor

/-
  Blob: what is encoded is decoded; cut short it is none: in plain terms.
-/
import Derived.Test.YtgigiamnhjelmaaDoorBlLa
namespace Go.Proofs.YtgigiamnhjelmaaDoor.Zq.Nm
open Go.Lib
theorem uvarint_ne (n : Nat) : uvarint n ≠ [] := fun h => by have := uvarint_pos n; rw [h] at this; simp at this

/-- A short number that was written is read. -/
theorem shortGo_write (most : Int) : ∀ (f i m n : Nat) (r : List UInt8), (uvarint n).length ≤ f → (0 < i → 0 < n) → ((m + n * 2 ^ (7 * i) : Nat) : Int) ≤ most →
    shortGo most f i m (uvarint n ++ r) = ⟨m + n * 2 ^ (7 * i), ⟨#[]⟩, i + (uvarint n).length, 0⟩
  | 0, _, _, n, _, h, _, _ => by have := uvarint_pos n; omega
  | f + 1, i, m, n, r, h, hi, hm => by
    by_cases hn : n < 128
    · rw [uvarint_small hn]
      have hc : n.toUInt8.toNat = n := toUInt8_toNat (by omega)
      rw [List.cons_append, List.nil_append, shortGo, hc, if_neg (by omega), if_neg (by omega), Nat.mod_eq_of_lt hn, if_neg (by omega)]
      rfl
    · rw [uvarint_big (by omega)] at h ⊢
      have hc : (n % 128 + 128).toUInt8.toNat = n % 128 + 128 := toUInt8_toNat (by omega)
      have hp : 2 ^ (7 * (i + 1)) = 128 * 2 ^ (7 * i) := by rw [Nat.mul_add, Nat.pow_add, Nat.mul_comm]
      have e : m + n % 128 * 2 ^ (7 * i) + n / 128 * 2 ^ (7 * (i + 1)) = m + n * 2 ^ (7 * i) := by
        have : n * 2 ^ (7 * i) = (n % 128 + 128 * (n / 128)) * 2 ^ (7 * i) := by rw [Nat.mod_add_div]
        rw [this, hp, Nat.add_mul, Nat.add_assoc, ← Nat.mul_assoc, Nat.mul_comm (n / 128) 128]
      rw [List.length_cons] at h
      rw [List.cons_append, shortGo, hc, if_pos (by omega), show (n % 128 + 128) % 128 = n % 128 from by omega,
        shortGo_write most f (i + 1) _ (n / 128) r (by omega) (fun _ => by omega) (by rw [e]; exact hm), e, List.length_cons]
      congr 1
      omega

theorem shortA_write (t : ByteArray) (p n : Nat) (most : Int) (r : List UInt8) (h : t.data.toList.drop p = uvarint n ++ r) (hn : n ≤ 9223372036854775807) (hm : (n : Int) ≤ most) :
    shortA t p most = ⟨n, ⟨#[]⟩, (uvarint n).length, 0⟩ := by
  unfold shortA
  rw [h, shortGo_write most 9 0 0 n r (uvarint_nine hn) (fun h => by omega) (by simpa using hm)]
  simp
/-- What is read of a beginning is read of the whole. -/
theorem shortGo_more (most : Int) : ∀ (f i n : Nat) (l r : List UInt8), (shortGo most f i n l).code = 0 → shortGo most f i n (l ++ r) = shortGo most f i n l
  | 0, _, _, _, _, h => by simp [shortGo, Ah.bad] at h
  | f + 1, i, n, [], r, h => by simp [shortGo, Ah.bad] at h
  | f + 1, i, n, c :: l, r, h => by
    rw [shortGo] at h
    rw [List.cons_append, shortGo, shortGo]
    by_cases h1 : 128 ≤ c.toNat
    · rw [if_pos h1] at h
      rw [if_pos h1, if_pos h1]
      exact shortGo_more most f (i + 1) _ l r h
    · rw [if_neg h1, if_neg h1]
end Go.Proofs.YtgigiamnhjelmaaDoor.Zq.Nm
namespace Go.Proofs.YtgigiamnhjelmaaDoor
open Go.RowKit Go.Lib
theorem ba_ext {a b : ByteArray} (h : a.data.toList = b.data.toList) : a = b := ByteArray.ext (Array.toList_inj.1 h)
theorem ex_list (s : ByteArray) (a b : Nat) : (s.extract a b).data.toList = (s.data.toList.drop a).take (b - a) := by
  rw [ByteArray.data_extract, Array.toList_extract, List.extract_eq_take_drop]
theorem ap_list (a b : ByteArray) : (a ++ b).data.toList = a.data.toList ++ b.data.toList := by rw [ByteArray.data_append, Array.toList_append]
theorem li_size (a : ByteArray) : a.data.toList.length = a.size := by rw [ByteArray.size, Array.length_toList]
theorem ext_right (a b : ByteArray) : (a ++ b).extract a.size (a ++ b).size = b := by
  apply ba_ext
  rw [ex_list, ap_list, ← li_size a, List.drop_left, ba_add, ← li_size a, ← li_size b, Nat.add_sub_cancel_left, List.take_of_length_le (Nat.le_refl _)]
theorem bl_list {s : ByteArray} {c : UInt8} {r : List UInt8} (h : s.data.toList = c :: r) : bt s 0 = c.toNat := by
  have hz : 0 < s.size := by rw [← li_size, h]; exact Nat.succ_pos _
  rw [bt_at hz]
  congr 1
  have e : s.data.toList[0]'(by rw [li_size]; exact hz) = c := by simp [h]
  rw [← e]
  rfl
theorem bl_mid {s : ByteArray} {a b i : Nat} (h : i < b - a) (hb : b ≤ s.size) : bt (s.extract a b) i = bt s (a + i) := by
  have h1 : i < (s.extract a b).size := by rw [ByteArray.size_extract]; omega
  rw [bt_at h1, bt_at (show a + i < s.size by omega)]
  congr 1
  rw [ByteArray.getElem_extract]
theorem hd_list (k : Nat) (t B : ByteArray) : (hdB k t ++ B).data.toList = UInt8.ofNat k :: (uvarint t.size ++ B.data.toList) := by
  rw [ap_list, hdB, ap_list]
  rfl
/-- A head, read. -/
theorem hd_read {k : Nat} {t B : ByteArray} (hk : k = 1 ∨ k = 2 ∨ k = 17 ∨ k = 18) (ht : t.size ≤ 65536) : hdA (hdB k t ++ B) = ⟨t.size, ⟨#[]⟩, (uvarint t.size).length, 0⟩ ∧ bt (hdB k t ++ B) 0 = k ∧ okH (hdB k t ++ B) = true ∧ lnB (hdB k t ++ B) = t.size ∧ atB (hdB k t ++ B) = (hdB k t).size ∧ (hdB k t ++ B).extract (hdB k t).size (hdB k t ++ B).size = B := by
  have h1 : hdA (hdB k t ++ B) = ⟨t.size, ⟨#[]⟩, (uvarint t.size).length, 0⟩ := by
    refine Zq.Nm.shortA_write _ 1 t.size 65536 B.data.toList ?_ (by omega) (by omega)
    rw [hd_list]
    rfl
  have h2 : bt (hdB k t ++ B) 0 = k := by
    rw [bl_list (hd_list k t B), UInt8.toNat_ofNat']
    omega
  have hz : 0 < (hdB k t ++ B).size := by rw [ba_add, hd_size]; omega
  have h3 : okH (hdB k t ++ B) = true := by
    rw [okH, show fb (hdB k t ++ B) = k from h2, h1, decide_eq_true hz]
    rcases hk with rfl | rfl | rfl | rfl <;> rfl
  refine ⟨h1, h2, h3, ?_, ?_, ext_right _ _⟩
  · rw [lnB, if_pos h3, h1]
  · rw [atB, if_pos h3, h1, hd_size]
theorem hd_small {t : ByteArray} (k : Nat) (h : t.size ≤ 2000) : (hdB k t).size ≤ 3 := by
  rw [hd_size]
  by_cases c : t.size < 128
  · rw [uvarint_small c]
    exact (by decide : 1 + 1 ≤ 3)
  · rw [uvarint_big (by omega), uvarint_small (by omega)]
    exact Nat.le_refl _
theorem rf_ok {m : Nat} {t : ByteArray} (hm : m = 1 ∨ m = 2) (ht : t.size ≤ 2000) : rfC m t = 0 := by
  have e : kn (m : Int) = true := kn_iff.2 (by omega)
  rw [rfC, if_pos e, if_pos (by omega)]
/-- There and back. -/
theorem dc_en {m : Nat} {t : ByteArray} (hm : m = 1 ∨ m = 2) (ht : t.size ≤ 2000) : dcB (enB m t) = some (m, t) ∧ lnB (enB m t) = t.size ∧ okH (enB m t) = true ∧ (enB m t).size ≤ t.size + 6 ∧ 0 < (enB m t).size := by
  have hr := rf_ok hm ht
  by_cases hl : (pkB t).size < t.size
  · obtain ⟨h1, h2, h3, h4, h5, h6⟩ := hd_read (k := m + 16) (t := t) (B := pkB t) (by omega) (by omega)
    obtain ⟨u1, u2⟩ := pkF.up (s := t) (by omega)
    have hs := hd_small (t := t) (m + 16) ht
    rw [en_packed hr hl]
    refine ⟨?_, h4, h3, ?_, ?_⟩
    · rw [dcB, if_pos h3, show fb (hdB (m + 16) t ++ pkB t) = m + 16 from h2, if_neg (by omega), h4, h5, h6, u2, if_pos rfl, u1, Nat.add_sub_cancel]
    · rw [ba_add]; omega
    · rw [ba_add, hd_size]; omega
  · obtain ⟨h1, h2, h3, h4, h5, h6⟩ := hd_read (k := m) (t := t) (B := t) (by omega) (by omega)
    have hs := hd_small (t := t) m ht
    rw [en_plain hr hl, pl_eq]
    refine ⟨?_, h4, h3, ?_, ?_⟩
    · rw [dcB, if_pos h3, show fb (hdB m t ++ t) = m from h2, if_pos (by omega), h4, h5, h6, if_pos (by rw [ba_add]; omega)]
    · rw [ba_add]; omega
    · rw [ba_add, hd_size]; omega
/-- A beginning that has a head has that of the whole. -/
theorem cut_head {k j : Nat} {t B : ByteArray} (hk : k = 1 ∨ k = 2 ∨ k = 17 ∨ k = 18) (ht : t.size ≤ 65536) (hj : j < (hdB k t ++ B).size) (ho : okH ((hdB k t ++ B).extract 0 j) = true) :
    lnB ((hdB k t ++ B).extract 0 j) = t.size ∧ atB ((hdB k t ++ B).extract 0 j) = (hdB k t).size ∧ bt ((hdB k t ++ B).extract 0 j) 0 = k ∧ (hdB k t).size ≤ j := by
  obtain ⟨h1, h2, h3, h4, h5, h6⟩ := hd_read (k := k) (t := t) (B := B) hk ht
  generalize hdB k t ++ B = S at *
  obtain ⟨y1, y2, y3, y4, y5, y6, y7⟩ := hd_yes ho
  have hz : (S.extract 0 j).size = j := by rw [ByteArray.size_extract]; omega
  have hA : hdA S = hdA (S.extract 0 j) := by
    have hc : (hdA (S.extract 0 j)).code = 0 := by rw [y3]
    have hL : S.data.toList.drop 1 = (S.extract 0 j).data.toList.drop 1 ++ S.data.toList.drop j := by
      have e1 : (S.extract 0 j).data.toList = S.data.toList.take j := by rw [ex_list, List.drop_zero, Nat.sub_zero]
      have e2 : 1 ≤ (S.data.toList.take j).length := by rw [List.length_take, li_size]; omega
      rw [e1, ← List.drop_append_of_le_length e2, List.take_append_drop]
    rw [hdA, hdA, Zq.Nm.shortA, Zq.Nm.shortA, hL]
    exact Zq.Nm.shortGo_more _ _ _ _ _ _ hc
  have e1 : lnB (S.extract 0 j) = t.size := by rw [lnB, if_pos ho, ← hA, h1]
  have e2 : atB (S.extract 0 j) = (hdB k t).size := by rw [atB, if_pos ho, ← hA, h1, hd_size]
  refine ⟨e1, e2, ?_, by omega⟩
  rw [bt_extract (by omega) (by omega), h2]
/-- Cut short it is none. -/
theorem dc_cut {m j : Nat} {t : ByteArray} (hm : m = 1 ∨ m = 2) (ht : t.size ≤ 2000) (hj : j < (enB m t).size) : dcB ((enB m t).extract 0 j) = none ∧ lnB ((enB m t).extract 0 j) ≤ 20000 ∧ ((enB m t).extract 0 j).size ≤ 2006 := by
  have hsz := (dc_en hm ht).2.2.2.1
  have hz : ((enB m t).extract 0 j).size = j := by rw [ByteArray.size_extract]; omega
  rcases ho : okH ((enB m t).extract 0 j) with _ | _
  · obtain ⟨a, b, c, d⟩ := hd_no ho
    exact ⟨d, by omega, by omega⟩
  have hr := rf_ok hm ht
  by_cases hl : (pkB t).size < t.size
  · rw [en_packed hr hl] at *
    obtain ⟨h1, h2, h3, h4, h5, h6⟩ := hd_read (k := m + 16) (t := t) (B := pkB t) (by omega) (by omega)
    obtain ⟨e1, e2, e3, e4⟩ := cut_head (by omega) (by omega) hj ho
    refine ⟨?_, by omega, by omega⟩
    have hsum := ba_add (hdB (m + 16) t) (pkB t)
    generalize hdB (m + 16) t ++ pkB t = S at *
    obtain ⟨p, hp⟩ : ∃ p, p = (S.extract 0 j).extract (hdB (m + 16) t).size j := ⟨_, rfl⟩
    have hps : p.size = j - (hdB (m + 16) t).size := by rw [hp, ByteArray.size_extract]; omega
    have hpre : Pre p (pkB t) := ⟨by omega, fun i hi => by
      rw [hp, bl_mid (by omega) (by omega), bt_extract (by omega) (by omega), ← h6, bl_mid (by omega) (Nat.le_refl _)]⟩
    obtain ⟨l, b1_, b2_⟩ := pkF.back t (by omega)
    have hn : (0 : Int) ≤ (t.size : Int) ∧ (t.size : Int) ≤ 1048576 := by omega
    have hu : ¬ upC p (t.size : Int) = 0 := by
      rcases hq : ps p with _ | ⟨l', t'⟩
      · rw [(up_none hn hq).2]; decide
      · rcases ps_pre hpre (by omega) hq with h | ⟨l2, t2, h, hlt⟩
        · rw [b1_] at h; exact absurd h (by simp)
        · rw [b1_] at h
          simp only [Option.some.injEq, Prod.mk.injEq] at h
          rw [(up_other hn hq (by omega)).2]
          decide
    rw [dcB, if_pos ho, show fb (S.extract 0 j) = m + 16 from e3, if_neg (by omega), hz, e1, e2, ← hp, if_neg hu]
  · rw [en_plain hr hl, pl_eq] at *
    obtain ⟨e1, e2, e3, e4⟩ := cut_head (by omega) (by omega) hj ho
    refine ⟨?_, by omega, by omega⟩
    have hsum := ba_add (hdB m t) t
    rw [dcB, if_pos ho, show fb ((hdB m t ++ t).extract 0 j) = m from e3, if_pos (by omega), hz, e1, e2, if_neg (by omega)]
end Go.Proofs.YtgigiamnhjelmaaDoor

/-
  Contracts of the program and of the statements (part 10 of 12).
-/
import Derived.Test.YtcidfkkgpehodaaDoorPn9

namespace Go.Proofs.YtcidfkkgpehodaaDoor
open Go.RowKit Go.Lib
theorem bPack : PackC Zq.Sh.Laid pkB := fun w s _ h1 h2 => pckC w s trivial h1 h2
theorem bUnp : UnpackC Zq.Sh.Laid := fun w s n _ h => unpC w s n trivial h
/-- A byte and a text, summed as two pieces. -/
theorem sum_two {w : World} {v : Value} {k : Nat} {t : ByteArray} (hL : Zq.Sh.Laid w) (hp : Zq.Sh.Pieces w v [b1 k, t]) (ht : t.size ≤ 140737488355328) : Calls Tryd.prog 19 #[v] w fun e w' => e = .returned (.string (idB k t)) ∧ Below w.heap.size w w' := by
  have e : Zq.Sh.joined [b1 k, t] = (b1 k ++ t).data.toList := by rw [ap_list, Zq.Sh.joined, List.flatMap_cons, List.flatMap_cons, List.flatMap_nil, List.append_nil]
  have h2 := Zq.Sh.sum_any hL hp (by simp) (by
    rw [e, li_size, ba_add, b1_size]
    omega)
  rw [e, ← idB] at h2
  exact h2
set_option maxRecDepth 100000 in
theorem one_any {w : World} {k : Nat} (hk : k < 256) : Calls Tryd.prog 54 #[.int .i64 (k : Int)] w fun e w' => e = .returned (.string (b1 k)) ∧ Below w.heap.size w w' := by
  obtain ⟨hcn, hcn2, hcn3, hcn4⟩ := conv_k hk
  have HB := hide (Below.refl w.heap.size w)
  obtain ⟨K, hK⟩ : ∃ K, b1 k = K := ⟨_, rfl⟩
  rw [hK] at hcn hcn2 hcn3 hcn4 ⊢
  clear hK
  go_enter Tryd.func54, Tryd.ntmps54
  go_wp2
  go_ret
  exact ⟨rfl, below_al HB.out _⟩
set_option maxRecDepth 100000 in
set_option maxHeartbeats 800000 in
theorem id_any {w : World} {k : Nat} {t : ByteArray} (hL : Zq.Sh.Laid w) (hk : k < 256) (ht : t.size ≤ 140737488355328) : Calls Tryd.prog 55 #[.int .i64 (k : Int), .string t] w fun e w' => e = .returned (.string (idB k t)) ∧ Below w.heap.size w w' := by
  have H1 := hide (one_any (w := w) hk)
  have HS : Hid (∀ (v : Value) (wx : World), Below w.heap.size w wx → Zq.Sh.Pieces wx v [b1 k, t] → Calls Tryd.prog 19 #[v] wx fun e w' => e = .returned (.string (idB k t)) ∧ Below wx.heap.size wx w') := fun v wx h hp => sum_two (hL.below h hL.size) hp ht
  obtain ⟨J, hJ⟩ : ∃ J, idB k t = J := ⟨_, rfl⟩
  obtain ⟨K, hK⟩ : ∃ K, b1 k = K := ⟨_, rfl⟩
  rw [hJ] at HS ⊢
  rw [hK] at HS H1
  clear hJ hK
  go_enter Tryd.func55, Tryd.ntmps55
  go_wp2_with fail
  refine H1.out.mono ?_
  rintro _ w2 ⟨rfl, hb⟩
  have HB := hide hb
  clear hb
  go_wp2_with fail
  refine (HS.out _ _ (below_al HB.out _) (pieces_two _ _ _ _ rfl)).mono ?_
  rintro _ w4 ⟨rfl, hb⟩
  have HB4 := hide (below_step (below_al HB.out _) hb)
  clear hb
  go_wp2
  go_ret
  exact ⟨rfl, HB4.out⟩
set_option maxRecDepth 100000 in
set_option maxHeartbeats 800000 in
theorem bId : BIdC Zq.Sh.Laid := fun w k t hL ht => by
  rcases hk : kn k with _ | _
  · have e1 : idS k t = ⟨#[]⟩ := by simp [idS, hk]
    have e2 : idC k = 1 := by simp [idC, hk]
    rw [e1, e2]
    have HK := hide hk
    clear e1 e2 hk
    go_enter Tryd.func25, Tryd.ntmps25
    go_wp2_with fail
    refine (known_call HK.out _).mono ?_
    rintro _ _ ⟨rfl, rfl⟩
    go_wp2
    exact bodyPost_ret (v := .tuple #[.string ⟨#[]⟩, .int .i64 1]) (by simp [results, Tryd.results25, go_sem]) rfl ⟨rfl, Below.refl _ _⟩
  · have e1 : idS k t = idB k.toNat t := by simp [idS, hk]
    have e2 : idC k = 0 := by simp [idC, hk]
    rw [e1, e2]
    obtain ⟨m, rfl⟩ : ∃ m : Nat, k = (m : Int) := ⟨k.toNat, by rcases kn_iff.1 hk with h | h <;> omega⟩
    have hm : m < 256 := by rcases kn_iff.1 hk with h | h <;> omega
    rw [Int.toNat_natCast]
    have HS := hide (id_any (t := t) hL hm ht)
    obtain ⟨J, hJ⟩ : ∃ J, idB m t = J := ⟨_, rfl⟩
    rw [hJ] at HS ⊢
    have HK := hide hk
    clear e1 e2 hk hJ
    go_enter Tryd.func25, Tryd.ntmps25
    go_wp2_with fail
    refine (known_call HK.out _).mono ?_
    rintro _ _ ⟨rfl, rfl⟩
    go_wp2_with fail
    refine HS.out.mono ?_
    rintro _ w2 ⟨rfl, hb⟩
    have HB := hide hb
    clear hb
    go_wp2
    exact bodyPost_ret (v := .tuple #[.string J, .int .i64 0]) (by simp [results, Tryd.results25, go_sem]) rfl ⟨rfl, HB.out⟩
end Go.Proofs.YtcidfkkgpehodaaDoor

namespace Go.Proofs.YtcidfkkgpehodaaDoor
open Go.RowKit Go.Lib
set_option maxRecDepth 100000 in
set_option maxHeartbeats 1600000 in
theorem bEnc : BEncC Zq.Sh.Laid := fun w k t hL h1 h2 => by
  rcases hk : kn k with _ | _
  · have e2 : rfC k t = 1 := by simp [rfC, hk]
    have e1 : enB k t = ⟨#[]⟩ := by rw [enB, if_neg (by rw [e2]; decide)]
    rw [e1, e2]
    have HK := hide hk
    clear e1 e2 hk h1
    go_enter Tryd.func24, Tryd.ntmps24
    go_wp2_with fail
    refine (known_call HK.out _).mono ?_
    rintro _ _ ⟨rfl, rfl⟩
    go_wp2
    exact bodyPost_ret (v := .tuple #[.string ⟨#[]⟩, .int .i64 1]) (by simp [results, Tryd.results24, go_sem]) rfl ⟨rfl, Below.refl _ _⟩
  by_cases ht : t.size ≤ 65536
  rotate_left
  · have e2 : rfC k t = 2 := by simp [rfC, hk, ht]
    have e1 : enB k t = ⟨#[]⟩ := by rw [enB, if_neg (by rw [e2]; decide)]
    have c1 : (65536 : Int) < (t.size : Int) := by omega
    rw [e1, e2]
    have HK := hide hk
    clear e1 e2 hk h1 ht
    go_enter Tryd.func24, Tryd.ntmps24
    go_wp2_with fail
    refine (known_call HK.out _).mono ?_
    rintro _ _ ⟨rfl, rfl⟩
    go_wp2
    exact bodyPost_ret (v := .tuple #[.string ⟨#[]⟩, .int .i64 2]) (by simp [results, Tryd.results24, go_sem]) rfl ⟨rfl, Below.refl _ _⟩
  · have e2 : rfC k t = 0 := by simp [rfC, hk, ht]
    have c1 : ¬ (65536 : Int) < (t.size : Int) := by omega
    obtain ⟨m, rfl⟩ : ∃ m : Nat, k = (m : Int) := ⟨k.toNat, by rcases kn_iff.1 hk with h | h <;> omega⟩
    have hm : m = 1 ∨ m = 2 := by rcases kn_iff.1 hk with h | h <;> omega
    have ht3 : t.size ≤ 3000 := by omega
    have HS := hide (fun wx => Zq.Nm.short_any t.size wx (by omega))
    have HP : Hid (∀ wx, Calls Tryd.prog 52 #[.string t] wx fun e w' => e = .returned (.tuple #[.string (pkB t), .int .i64 0]) ∧ Below wx.heap.size wx w') := fun wx => by
      have h2 := pckC wx t trivial (.inl (by omega)) (by omega)
      rw [pkV, if_pos (by omega)] at h2
      exact h2
    have hor : bits .or .i64 (m : Int) 16 = ((m + 16 : Nat) : Int) := by rcases hm with rfl | rfl <;> decide
    have hy := hd_size10 (t := t) 0 ht
    rw [hd_size] at hy
    have hlz : (Zq.Nm.strOf (uvarint t.size)).size ≤ 10 := by rw [Zq.Nm.strOf_size]; omega
    rw [e2]
    by_cases hl : (pkB t).size < t.size
    · rw [en_packed e2 hl, hdB]
      have hM : m + 16 < 256 := by omega
      have HO : Hid (∀ wx, Calls Tryd.prog 54 #[.int .i64 ((m + 16 : Nat) : Int)] wx fun e w' => e = .returned (.string (b1 (m + 16))) ∧ Below wx.heap.size wx w') := fun wx => one_any (w := wx) hM
      have hbz := b1_size (m + 16)
      obtain ⟨M, hMM⟩ : ∃ M, m + 16 = M := ⟨_, rfl⟩
      rw [hMM] at HO hor hM hbz ⊢
      obtain ⟨L, hLL⟩ : ∃ L, Zq.Nm.strOf (uvarint t.size) = L := ⟨_, rfl⟩
      obtain ⟨Q, hQ⟩ : ∃ Q, pkB t = Q := ⟨_, rfl⟩
      obtain ⟨B, hB⟩ : ∃ B, b1 M = B := ⟨_, rfl⟩
      rw [hLL] at HS hlz ⊢
      rw [hQ] at HP hl ⊢
      rw [hB] at HO hbz ⊢
      have c2 : (Q.size : Int) < (t.size : Int) := by omega
      have hQz : Q.size ≤ 3000 := by omega
      obtain ⟨U, hU⟩ : ∃ U, B ++ L = U := ⟨_, rfl⟩
      have hUz : U.size ≤ 11 := by rw [← hU, ba_add]; omega
      obtain ⟨E, hE⟩ : ∃ E, U ++ Q = E := ⟨_, rfl⟩
      rw [hU, hE]
      have HK := hide hk
      clear hk h1 ht e2 hm hl hMM hLL hQ hB ht3 hy
      go_enter Tryd.func24, Tryd.ntmps24
      go_wp2_with fail
      refine (known_call HK.out _).mono ?_
      rintro _ _ ⟨rfl, rfl⟩
      go_wp2_with fail
      refine (HP.out _).mono ?_
      rintro _ w2 ⟨rfl, hb⟩
      have HB2 := hide hb
      clear hb
      go_wp2_with fail
      refine (HS.out _).mono ?_
      rintro _ w3 ⟨rfl, hb⟩
      have HB3 := hide (below_step HB2.out hb)
      clear hb
      go_wp2_with fail
      refine (HO.out _).mono ?_
      rintro _ w4 ⟨rfl, hb⟩
      have HB4 := hide (below_step HB3.out hb)
      clear hb
      go_wp2
      exact bodyPost_ret (v := .tuple #[.string E, .int .i64 0]) (by simp [results, Tryd.results24, go_sem]) rfl ⟨rfl, HB4.out⟩
    · rw [en_plain e2 hl, pl_eq, hdB]
      have hM : m < 256 := by omega
      have HO : Hid (∀ wx, Calls Tryd.prog 54 #[.int .i64 (m : Int)] wx fun e w' => e = .returned (.string (b1 m)) ∧ Below wx.heap.size wx w') := fun wx => one_any (w := wx) hM
      have hbz := b1_size m
      obtain ⟨L, hLL⟩ : ∃ L, Zq.Nm.strOf (uvarint t.size) = L := ⟨_, rfl⟩
      obtain ⟨Q, hQ⟩ : ∃ Q, pkB t = Q := ⟨_, rfl⟩
      obtain ⟨B, hB⟩ : ∃ B, b1 m = B := ⟨_, rfl⟩
      rw [hLL] at HS hlz ⊢
      rw [hQ] at HP hl
      rw [hB] at HO hbz ⊢
      have c2 : ¬ (Q.size : Int) < (t.size : Int) := by omega
      obtain ⟨U, hU⟩ : ∃ U, B ++ L = U := ⟨_, rfl⟩
      have hUz : U.size ≤ 11 := by rw [← hU, ba_add]; omega
      obtain ⟨E, hE⟩ : ∃ E, U ++ t = E := ⟨_, rfl⟩
      rw [hU, hE]
      have HK := hide hk
      clear hk h1 ht e2 hm hl hLL hQ hB hy hor
      go_enter Tryd.func24, Tryd.ntmps24
      go_wp2_with fail
      refine (known_call HK.out _).mono ?_
      rintro _ _ ⟨rfl, rfl⟩
      go_wp2_with fail
      refine (HP.out _).mono ?_
      rintro _ w2 ⟨rfl, hb⟩
      have HB2 := hide hb
      clear hb
      go_wp2_with fail
      refine (HS.out _).mono ?_
      rintro _ w3 ⟨rfl, hb⟩
      have HB3 := hide (below_step HB2.out hb)
      clear hb
      go_wp2_with fail
      refine (HO.out _).mono ?_
      rintro _ w4 ⟨rfl, hb⟩
      have HB4 := hide (below_step HB3.out hb)
      clear hb
      go_wp2
      exact bodyPost_ret (v := .tuple #[.string E, .int .i64 0]) (by simp [results, Tryd.results24, go_sem]) rfl ⟨rfl, HB4.out⟩
end Go.Proofs.YtcidfkkgpehodaaDoor

namespace Go.Proofs.YtcidfkkgpehodaaDoor
open Go.RowKit Go.Lib
/-- What stands behind a head, and whether it is a text. -/
def txS (f n : Nat) (t : ByteArray) : ByteArray × Bool := if f / 16 % 2 = 1 then (upS t n, upC t n == 0) else if t.size = n then (t, true) else (⟨#[]⟩, false)
theorem dc_tx {s : ByteArray} (h : okH s = true) : dcB s = if (txS (fb s) (lnB s) (s.extract (atB s) s.size)).2 = true then some (kd (fb s), (txS (fb s) (lnB s) (s.extract (atB s) s.size)).1) else none := by
  obtain ⟨h0, hf, hA, h4, h5, h6, h7⟩ := hd_yes h
  have hz : (s.extract (atB s) s.size).size = s.size - atB s := by rw [ByteArray.size_extract]; omega
  rw [dcB, if_pos h, txS, hz, kd]
  by_cases c : fb s < 16
  · have c1 : ¬ fb s / 16 % 2 = 1 := by omega
    rw [if_pos c, if_neg c1, if_neg c1]
    by_cases d : s.size - atB s = lnB s
    · rw [if_pos d, if_pos d, if_pos rfl]
    · rw [if_neg d, if_neg d, if_neg (by decide)]
  · have c1 : fb s / 16 % 2 = 1 := by omega
    rw [if_neg c, if_pos c1, if_pos c1]
    by_cases d : upC (s.extract (atB s) s.size) (lnB s) = 0
    · rw [if_pos d, if_pos (by simpa using d)]
    · rw [if_neg d, if_neg (by simpa using d)]
set_option maxRecDepth 100000 in
set_option maxHeartbeats 1600000 in
theorem text_any {w : World} {f n : Nat} {t : ByteArray} (hL : Zq.Sh.Laid w) (hf : f < 256) (ht : t.size ≤ 140000) : Calls Tryd.prog 58 #[.agg #[.int .i64 (f : Int), .int .i64 (n : Int), .string t]] w fun e w' => e = .returned (.tuple #[.string (txS f n t).1, .bool (txS f n t).2]) ∧ Below w.heap.size w w' := by
  have ha := kd_and hf
  have HU : Hid (∀ wx, Below w.heap.size w wx → Calls Tryd.prog 76 #[.string t, .int .i64 (n : Int)] wx fun e w' => e = .returned (.tuple #[.string (upS t n), .int .i64 (upC t n)]) ∧ Below wx.heap.size wx w') := fun wx h => bUnp wx t n (hL.below h hL.size) ht
  have HC : Hid (∀ wx, Calls Tryd.prog 77 #[.string t] wx fun e w' => e = .returned (.string t) ∧ Below wx.heap.size wx w') := fun wx => clone_any wx t ht
  have HB := hide (below_al (Below.refl w.heap.size w))
  rw [txS]
  by_cases c : f / 16 % 2 = 1
  · rw [if_pos c] at ha ⊢
    obtain ⟨U, hU⟩ : ∃ U, upS t (n : Int) = U := ⟨_, rfl⟩
    obtain ⟨C, hC⟩ : ∃ C, upC t (n : Int) = C := ⟨_, rfl⟩
    rw [hU, hC] at HU ⊢
    clear hU hC c ht
    go_enter Tryd.func58, Tryd.ntmps58
    go_wp2_with fail
    refine (HU.out _ (HB.out _)).mono ?_
    rintro _ w2 ⟨rfl, hb⟩
    have HB2 := hide (below_step (HB.out _) hb)
    clear hb
    go_wp2
    exact bodyPost_ret (v := .tuple #[.string U, .bool (C == 0)]) (by simp [results, Tryd.results58, go_sem]) rfl ⟨rfl, HB2.out⟩
  · rw [if_neg c] at ha ⊢
    by_cases d : t.size = n
    · rw [if_pos d]
      have d1 : ((t.size : Int) != (n : Int)) = false := by simp [d]
      have d2 : (t.size : Int) = (n : Int) := by omega
      clear c d ht
      go_enter Tryd.func58, Tryd.ntmps58
      go_wp2_with fail
      refine (HC.out _).mono ?_
      rintro _ w2 ⟨rfl, hb⟩
      have HB2 := hide (below_step (HB.out _) hb)
      clear hb
      go_wp2
      exact bodyPost_ret (v := .tuple #[.string t, .bool true]) (by simp [results, Tryd.results58, go_sem]) rfl ⟨rfl, HB2.out⟩
    · rw [if_neg d]
      have d2 : ¬ (t.size : Int) = (n : Int) := by omega
      clear c d ht
      go_enter Tryd.func58, Tryd.ntmps58
      go_wp2
      exact bodyPost_ret (v := .tuple #[.string ⟨#[]⟩, .bool false]) (by simp [results, Tryd.results58, go_sem]) rfl ⟨rfl, HB.out _⟩
end Go.Proofs.YtcidfkkgpehodaaDoor

namespace Go.Proofs.YtcidfkkgpehodaaDoor
open Go.RowKit Go.Lib
theorem h3_size (s : ByteArray) : (h3 s).txt.size ≤ s.size := by
  rw [h3, Zq.Nm.asked]
  split
  · unfold Zq.Nm.bytesA
    split
    · exact Nat.zero_le _
    · split
      · exact Nat.zero_le _
      · simp
        omega
  · exact Nat.zero_le _
set_option maxRecDepth 100000 in
set_option maxHeartbeats 1600000 in
theorem bDec : BDecC Zq.Sh.Laid := fun w s hL hs _ => by
  have HA := hide (ahead_any (w := w) (s := s) (by omega))
  rcases ho : okH s with _ | _
  · obtain ⟨_, _, _, e4⟩ := hd_no ho
    rw [e4]
    rw [ho, hdV] at HA
    obtain ⟨f, hf⟩ : ∃ f, (h1 s).num = f := ⟨_, rfl⟩
    obtain ⟨n, hn⟩ : ∃ n, (h2 s).num = n := ⟨_, rfl⟩
    obtain ⟨t, ht⟩ : ∃ t, (h3 s).txt = t := ⟨_, rfl⟩
    rw [hf, hn, ht] at HA
    simp only [dK, dT, dC]
    clear hf hn ht ho e4
    go_enter Tryd.func35, Tryd.ntmps35
    go_wp2_with fail
    refine HA.out.mono ?_
    rintro _ w2 ⟨rfl, hb⟩
    have HB := hide hb
    clear hb
    go_wp2
    exact bodyPost_ret (v := .tuple #[.int .i64 0, .string ⟨#[]⟩, .int .i64 130]) (by simp [results, Tryd.results35, go_sem]) rfl ⟨rfl, below_al HB.out _⟩
  · obtain ⟨g1, g2, g3⟩ := (heads s).2.2.2.2 ho
    obtain ⟨_, hf0, _⟩ := hd_yes ho
    have hz := h3_size s
    rw [dc_tx ho]
    rw [ho, hdV, g1, g2, g3] at HA
    rw [g3] at hz
    obtain ⟨f, hf⟩ : ∃ f, fb s = f := ⟨_, rfl⟩
    obtain ⟨n, hn⟩ : ∃ n, lnB s = n := ⟨_, rfl⟩
    obtain ⟨t, ht⟩ : ∃ t, s.extract (atB s) s.size = t := ⟨_, rfl⟩
    rw [hf, hn, ht] at HA ⊢
    rw [hf] at hf0
    rw [ht] at hz
    clear hf hn ht ho g1 g2 g3
    have hfl : f < 256 := by omega
    have HT : Hid (∀ wx, Below w.heap.size w wx → Calls Tryd.prog 58 #[.agg #[.int .i64 (f : Int), .int .i64 (n : Int), .string t]] wx fun e w' => e = .returned (.tuple #[.string (txS f n t).1, .bool (txS f n t).2]) ∧ Below wx.heap.size wx w') := fun wx h => text_any (hL.below h hL.size) hfl (by omega)
    have HK : Hid (∀ wx, Calls Tryd.prog 59 #[.agg #[.int .i64 (f : Int), .int .i64 (n : Int), .string t]] wx fun e w' => e = .returned (.int .i64 ((kd f : Nat) : Int)) ∧ Below wx.heap.size wx w') := fun wx => kind_any hfl _ _
    obtain ⟨T, hT⟩ : ∃ T, (txS f n t).1 = T := ⟨_, rfl⟩
    obtain ⟨k, hk⟩ : ∃ k, kd f = k := ⟨_, rfl⟩
    rw [hT] at HT ⊢
    rw [hk] at HK ⊢
    rcases hB : (txS f n t).2 with _ | _
    · rw [hB] at HT
      rw [if_neg (by decide)]
      simp only [dK, dT, dC]
      clear hT hk hB hz hf0
      go_enter Tryd.func35, Tryd.ntmps35
      go_wp2_with fail
      refine HA.out.mono ?_
      rintro _ w2 ⟨rfl, hb⟩
      have HB := hide hb
      clear hb
      go_wp2_with fail
      refine (HT.out _ (below_al HB.out _)).mono ?_
      rintro _ w3 ⟨rfl, hb⟩
      have HB3 := hide (below_step (below_al HB.out _) hb)
      clear hb
      go_wp2
      exact bodyPost_ret (v := .tuple #[.int .i64 0, .string ⟨#[]⟩, .int .i64 130]) (by simp [results, Tryd.results35, go_sem]) rfl ⟨rfl, HB3.out⟩
    · rw [hB] at HT
      rw [if_pos rfl]
      simp only [dK, dT, dC]
      clear hT hk hB hz hf0
      go_enter Tryd.func35, Tryd.ntmps35
      go_wp2_with fail
      refine HA.out.mono ?_
      rintro _ w2 ⟨rfl, hb⟩
      have HB := hide hb
      clear hb
      obtain ⟨r, hr⟩ : ∃ r, w2.heap.size = r := ⟨_, rfl⟩
      obtain ⟨w3, hw3⟩ : ∃ w3, w2.alloc (.cells #[.int .i64 (f : Int), .int .i64 (n : Int), .string t] 97) = w3 := ⟨_, rfl⟩
      have H3 : Hid (Below w.heap.size w w3 ∧ w3.heap[r]? = some (.cells #[.int .i64 (f : Int), .int .i64 (n : Int), .string t] 97 (0, 0))) := by
        rw [← hw3, ← hr]
        exact ⟨below_al HB.out _, heap_alloc_new w2 _⟩
      have HW3 := hide hw3
      have HR := hide hr
      clear hw3 hr
      go_wp2_with fail
      rw [HW3.out, HR.out]
      refine (HT.out _ H3.out.1).mono ?_
      rintro _ w4 ⟨rfl, hb⟩
      have H4 : Hid (Below w.heap.size w w4 ∧ w4.heap[r]? = some (.cells #[.int .i64 (f : Int), .int .i64 (n : Int), .string t] 97 (0, 0))) := ⟨below_step H3.out.1 hb, (hb.block r (lt_of_block H3.out.2)).trans H3.out.2⟩
      clear hb
      obtain ⟨d0, d1, d2⟩ := cell3 H4.out.2
      go_wp2_with fail
      refine (HK.out _).mono ?_
      rintro _ w5 ⟨rfl, hb⟩
      have HB5 := hide (below_step H4.out.1 hb)
      clear hb
      go_wp2
      exact bodyPost_ret (v := .tuple #[.int .i64 (k : Int), .string T, .int .i64 0]) (by simp [results, Tryd.results35, go_sem]) rfl ⟨rfl, HB5.out⟩
set_option maxRecDepth 100000 in
set_option maxHeartbeats 1600000 in
theorem bOpen : BOpenC Zq.Sh.Laid := fun w s i hL hs hl => by
  have HD := hide (bDec w s hL hs hl)
  rcases hd : dcB s with _ | ⟨k, t⟩
  · rw [op_none hd]
    rw [hd] at HD
    simp only [dK, dT, dC] at HD ⊢
    clear hd
    go_enter Tryd.func43, Tryd.ntmps43
    go_wp2_with fail
    refine HD.out.mono ?_
    rintro _ w2 ⟨rfl, hb⟩
    have HB := hide hb
    clear hb
    go_wp2
    exact bodyPost_ret (v := .tuple #[.int .i64 0, .string ⟨#[]⟩, .int .i64 130]) (by simp [results, Tryd.results43, go_sem]) rfl ⟨rfl, HB.out⟩
  · obtain ⟨hk, ht⟩ := dc_small hd
    have HS : Hid (∀ wx, Below w.heap.size w wx → Calls Tryd.prog 55 #[.int .i64 (k : Int), .string t] wx fun e w' => e = .returned (.string (idB k t)) ∧ Below wx.heap.size wx w') := fun wx h => id_any (hL.below h hL.size) (by omega) (by omega)
    rw [hd] at HD
    by_cases hi : idB k t = i
    · rw [op_ok hd hi]
      simp only [dK, dT, dC] at HD ⊢
      rw [hi] at HS
      clear hd hi ht
      go_enter Tryd.func43, Tryd.ntmps43
      go_wp2_with fail
      refine HD.out.mono ?_
      rintro _ w2 ⟨rfl, hb⟩
      have HB := hide hb
      clear hb
      go_wp2_with fail
      refine (HS.out _ HB.out).mono ?_
      rintro _ w3 ⟨rfl, hb⟩
      have HB3 := hide (below_step HB.out hb)
      clear hb
      go_wp2
      exact bodyPost_ret (v := .tuple #[.int .i64 (k : Int), .string t, .int .i64 0]) (by simp [results, Tryd.results43, go_sem]) rfl ⟨rfl, HB3.out⟩
    · rw [op_other hd hi]
      simp only [dK, dT, dC] at HD ⊢
      obtain ⟨J, hJ⟩ : ∃ J, idB k t = J := ⟨_, rfl⟩
      rw [hJ] at HS hi
      have hne := ne_list (fun e => hi e.symm)
      clear hd ht hJ hi
      go_enter Tryd.func43, Tryd.ntmps43
      go_wp2_with fail
      refine HD.out.mono ?_
      rintro _ w2 ⟨rfl, hb⟩
      have HB := hide hb
      clear hb
      go_wp2_with fail
      refine (HS.out _ HB.out).mono ?_
      rintro _ w3 ⟨rfl, hb⟩
      have HB3 := hide (below_step HB.out hb)
      clear hb
      go_wp2
      exact bodyPost_ret (v := .tuple #[.int .i64 0, .string ⟨#[]⟩, .int .i64 130]) (by simp [results, Tryd.results43, go_sem]) rfl ⟨rfl, HB3.out⟩
end Go.Proofs.YtcidfkkgpehodaaDoor

namespace Go.Proofs.YtcidfkkgpehodaaDoor
open Go.RowKit Go.Lib
/-- A blob that is put into a pack. -/
def mkB (k : Int) (t : ByteArray) : BE := ⟨enB k t, idB k.toNat t, k.toNat, t.size⟩
/-- Where blobs lie. -/
def plF : Nat → List BE → ByteArray → Option (Int × Int)
  | _, [], _ => none
  | a, x :: r, i => if x.id = i then some ((a : Int), (x.s.size : Int)) else plF (a + x.s.size) r i
theorem plF_none {i : ByteArray} : ∀ {a : Nat} {l : List BE}, plF a l i = none ↔ ∀ x ∈ l, x.id ≠ i
  | a, [] => by simp [plF]
  | a, x :: r => by
    rw [plF]
    by_cases e : x.id = i
    · rw [if_pos e]
      constructor
      · intro h; cases h
      · intro h; exact absurd e (h x List.mem_cons_self)
    · rw [if_neg e, plF_none (a := a + x.s.size) (l := r)]
      constructor
      · intro h y hy
        rcases List.mem_cons.1 hy with rfl | hy
        · exact e
        · exact h y hy
      · exact fun h y hy => h y (List.mem_cons_of_mem _ hy)
theorem plF_snoc {x : BE} {i : ByteArray} : ∀ {a : Nat} {l : List BE}, plF a l x.id = none → plF a (l ++ [x]) i = if i = x.id then some (((a + (blbB l).size : Nat) : Int), (x.s.size : Int)) else plF a l i
  | a, [], _ => by
    rw [List.nil_append, plF, plF, blbB, sz_nil, Nat.add_zero]
    by_cases e : i = x.id
    · rw [if_pos e, if_pos e.symm]
    · rw [if_neg e, if_neg (fun q => e q.symm)]
      rfl
  | a, y :: r, h => by
    rw [plF] at h
    by_cases e : y.id = x.id
    · rw [if_pos e] at h; cases h
    · rw [if_neg e] at h
      rw [List.cons_append, plF, plF, plF_snoc h, blbB, ba_add]
      by_cases e2 : y.id = i
      · rw [if_pos e2, if_pos e2, if_neg (fun q => e (e2.trans q))]
      · rw [if_neg e2, if_neg e2, Nat.add_assoc]
theorem plF_get {i : ByteArray} : ∀ {a : Nat} {l : List BE} {j : Nat} {x : BE}, l.Pairwise (fun x y => x.id ≠ y.id) → l[j]? = some x → x.id = i → plF a l i = some (((a + (blbB (l.take j)).size : Nat) : Int), (x.s.size : Int))
  | a, y :: r, 0, x, _, h, e => by
    simp only [List.getElem?_cons_zero, Option.some.injEq] at h
    subst h
    rw [plF, if_pos e, List.take_zero, blbB, sz_nil, Nat.add_zero]
  | a, y :: r, j + 1, x, hp, h, e => by
    rw [List.getElem?_cons_succ] at h
    rw [List.pairwise_cons] at hp
    rw [plF, if_neg (fun q => hp.1 x (List.mem_of_getElem? h) (q.trans e.symm)), plF_get hp.2 h e, List.take_succ_cons, blbB, ba_add, Nat.add_assoc]
/-- Is there room for one blob more? -/
def fits (lim : Int) (L : List BE) (x : BE) : Bool := (decide (L.length = 0) || decide (((paT (L ++ [x])).size : Int) ≤ lim)) && decide ((paT (L ++ [x])).size ≤ 65536) && decide (L.length + 1 ≤ 4096)
def adC (lim : Int) (L : List BE) (k : Int) (t : ByteArray) : Int := if rfC k t = 0 then (if (plF 5 L (mkB k t).id).isSome then 6 else if fits lim L (mkB k t) then 0 else 2) else rfC k t
def adI (lim : Int) (L : List BE) (k : Int) (t : ByteArray) : ByteArray := if adC lim L k t = 0 then (mkB k t).id else ⟨#[]⟩
def adL (lim : Int) (L : List BE) (k : Int) (t : ByteArray) : List BE := if adC lim L k t = 0 then L ++ [mkB k t] else L
/-- What a builder holds. -/
def GL (L : List BE) : Prop := (∀ x ∈ L, OkB x) ∧ L.Pairwise (fun x y => x.id ≠ y.id) ∧ L.length ≤ 4096 ∧ (paT L).size ≤ 65536
theorem gl_nil : GL [] := by
  refine ⟨fun _ h => (nomatch h), List.Pairwise.nil, by decide, ?_⟩
  have := (smB_size 0 (by decide)).1
  rw [paT_size, dirB, ba_add, blbB, linesB, sz_nil, List.length_nil]
  omega
theorem paT_snoc (L : List BE) (x : BE) : (paT (L ++ [x])).size = 5 + (blbB L).size + x.s.size + ((smB (L.length + 1)).size + ((linesB L).size + (lineB x).size)) + 8 := by
  rw [paT_size, blb_snoc, dirB, lines_snoc, List.length_append, List.length_singleton, ba_add, ba_add, ba_add]
  omega
theorem en_pos {k : Int} {t : ByteArray} (h : rfC k t = 0) : 1 ≤ (enB k t).size := by
  rw [enB, if_pos h]
  split
  · rw [ba_add, ba_add, b1_size]; omega
  · rw [plB, ba_add, b1_size]; omega
theorem rf_zero {k : Int} {t : ByteArray} (h : rfC k t = 0) : kn k = true ∧ t.size ≤ 65536 := by
  rw [rfC] at h
  cases hk : kn k with
  | false => rw [hk, if_neg (by decide)] at h; cases h
  | true =>
    rw [hk, if_pos rfl] at h
    refine ⟨rfl, Classical.byContradiction fun e => ?_⟩
    rw [if_neg e] at h
    cases h
theorem ad_zero {lim : Int} {L : List BE} {k : Int} {t : ByteArray} (h : adC lim L k t = 0) : rfC k t = 0 ∧ plF 5 L (mkB k t).id = none ∧ fits lim L (mkB k t) = true := by
  rw [adC] at h
  by_cases h0 : rfC k t = 0
  · rw [if_pos h0] at h
    cases hp : plF 5 L (mkB k t).id with
    | some v => rw [hp] at h; cases h
    | none =>
      rw [hp] at h
      refine ⟨h0, rfl, Classical.byContradiction fun e => ?_⟩
      rw [Bool.not_eq_true] at e
      rw [e] at h
      cases h
  · rw [if_neg h0] at h
    exact absurd h h0
theorem gl_add {lim : Int} {L : List BE} {k : Int} {t : ByteArray} (hG : GL L) : GL (adL lim L k t) := by
  rw [adL]
  by_cases h : adC lim L k t = 0
  · rw [if_pos h]
    obtain ⟨h1, h2, h3⟩ := ad_zero h
    obtain ⟨g1, g2, g3, g4⟩ := hG
    rw [fits] at h3
    simp only [Bool.and_eq_true, decide_eq_true_eq] at h3
    obtain ⟨⟨_, h4⟩, h5⟩ := h3
    have hs := paT_snoc L (mkB k t)
    refine ⟨fun x hx => ?_, ?_, by rw [List.length_append, List.length_singleton]; exact h5, h4⟩
    · rcases List.mem_append.1 hx with hx | hx
      · exact g1 x hx
      · rw [List.mem_singleton] at hx
        subst hx
        refine ⟨id_size _ _, ?_, en_pos h1, by omega, (rf_zero h1).2⟩
        rcases kn_iff.1 (rf_zero h1).1 with e | e
        · exact .inl (by show k.toNat = 1; omega)
        · exact .inr (by show k.toNat = 2; omega)
    · rw [List.pairwise_append]
      refine ⟨g2, List.pairwise_singleton _ _, fun x hx y hy => ?_⟩
      rw [List.mem_singleton] at hy
      subst hy
      exact plF_none.1 h2 x hx
  · rw [if_neg h]; exact hG
theorem fits_rm (lim : Int) (L : List BE) (x : BE) : rmB lim L.length (hd5 ++ blbB L).data.toList (linesB L).data.toList (x.s.size + (lineB x).size) = fits lim L x := by
  have e : byO (hd5 ++ blbB L).data.toList (linesB L).data.toList (L.length + 1) + (x.s.size + (lineB x).size) = (paT (L ++ [x])).size := by
    rw [paT_snoc, byO, li_size, li_size, ba_add, hd5_size]
    omega
  rw [rmB, e, fits]
/-- A builder at block b, whose blocks are told by P. -/
def BX (P : Nat → Prop) (w : World) (b : Nat) (lim : Int) (L : List BE) : Prop :=
  (∃ mb v1 v2, PQ w b mb v1 v2 lim (hd5 ++ blbB L).data.toList (linesB L).data.toList L.length (plF 5 L) ∧ ∀ i, Pb b mb v1 v2 i → P i) ∧ ∀ i, P i → i < w.heap.size
section
variable {P P' : Nat → Prop} {w w' : World} {b : Nat} {lim : Int} {L : List BE}
theorem BX.at_ (h : BX P w b lim L) : P b := by
  obtain ⟨⟨mb, v1, v2, _, h⟩, _⟩ := h
  exact h b (.inl rfl)
theorem BX.gs {p : Nat → Prop} (h : BX P w b lim L) (hg : Gs p w w') (hp : ∀ i, P i → ¬ p i) : BX P w' b lim L := by
  obtain ⟨⟨mb, v1, v2, h1, h2⟩, h3⟩ := h
  exact ⟨⟨mb, v1, v2, h1.gs hg fun i hi => hp i (h2 i hi), h2⟩, fun i hi => Nat.lt_of_lt_of_le (h3 i hi) hg.size⟩
theorem BX.bel (h : BX P w b lim L) (hb : Below w.heap.size w w') : BX P w' b lim L := h.gs (Gs.of_below (fun _ => False) hb) fun _ _ e => e
/-- What a call on it leaves. -/
def BY (P : Nat → Prop) (w : World) (b : Nat) (lim : Int) (L' : List BE) (w' : World) : Prop := ∃ P', BX P' w' b lim L' ∧ Gs P w w' ∧ ∀ i, P' i → P i ∨ w.heap.size ≤ i
theorem BY.of_bel (h : BX P w b lim L) (hb : Below w.heap.size w w') : BY P w b lim L w' := ⟨P, h.bel hb, Gs.of_below P hb, fun _ hi => .inl hi⟩
theorem PQ.mapd {mb n : Nat} {v1 v2 : Value} {O R : List UInt8} {f g : ByteArray → Option (Int × Int)} {m : Nat} (h : PQ w b mb v1 v2 lim O R n f) (hm : MQ w' mb m g) (hg : Gs (fun i => i = mb) w w') : PQ w' b mb v1 v2 lim O R m g :=
  ⟨(hg.block b (lt_of_block h.blk) (fun e => h.ne e.symm)).trans h.blk, OW.kb h.t1 fun i hi => hg.block i (OW.lt h.t1 i hi).2 (fun e => bow_map h.t1 h.map (by rw [hi, e])), OW.kb h.t2 fun i hi => hg.block i (OW.lt h.t2 i hi).2 (fun e => bow_map h.t2 h.map (by rw [hi, e])), hm, h.ap⟩
end
end Go.Proofs.YtcidfkkgpehodaaDoor

namespace Go.Proofs.YtcidfkkgpehodaaDoor
open Go.RowKit Go.Lib
theorem wpList_mapUpdate_run {ops : Array Oper} {rest : List Oper} {op : Oper} {a : Act} {w w1 : World} {Q : Exit → Act → World → Prop} (hgd : op.guard = none) (ty : TypeId) (x y z : Operand) (ho : op.op = .mapUpdate ty x y z)
    (p v u : Value) (hx : a.eval x = p) (hy : a.eval y = v) (hz : a.eval z = u) (hr : (Instr.mapUpdate ty p v u).run Tryd.prog w = .ok () w1)
    (h : wpList Tryd.prog ops Q rest (a.put op.dst undef) w1) : wpList Tryd.prog ops Q (op :: rest) a w :=
  wpList_plain hgd fun _ hK => by
    unfold Oper.wp execOp
    simp only [ho, hx, hy, hz, Sem.run_bind, Sem.run_pure, Result.andThen_ok, hr]
    exact hK _ _ h
theorem wpList_lookup_run {ops : Array Oper} {rest : List Oper} {op : Oper} {a : Act} {w w1 : World} {Q : Exit → Act → World → Prop} (hgd : op.guard = none) (ty : TypeId) (x y : Operand) (b : Bool) (ho : op.op = .lookup ty x y b)
    (p v u : Value) (hx : a.eval x = p) (hy : a.eval y = v) (hr : (Instr.lookup ty p v b).run Tryd.prog w = .ok u w1)
    (h : wpList Tryd.prog ops Q rest (a.put op.dst u) w1) : wpList Tryd.prog ops Q (op :: rest) a w :=
  wpList_plain hgd fun _ hK => by
    unfold Oper.wp execOp
    simp only [ho, hx, hy, Sem.run_bind, Sem.run_pure, Result.andThen_ok, hr]
    exact hK _ _ h
end Go.Proofs.YtcidfkkgpehodaaDoor

namespace Go.Proofs.YtcidfkkgpehodaaDoor
open Go.RowKit Go.Lib
set_option maxRecDepth 100000 in
set_option maxHeartbeats 4000000 in
theorem padd_any {P : Nat → Prop} {w w0 : World} {b : Nat} {lim : Int} {L : List BE} (h : BX P w b lim L) (hG : GL L) (hL : Zq.Sh.Laid w0) (hb0 : Below w0.heap.size w0 w) (k : Int) (t : ByteArray) (ht : t.size ≤ 3000 ∨ 65536 < t.size) (ht2 : t.size ≤ 140737488355328) :
    Calls Tryd.prog 8 #[.pointer (some ⟨b, 0, none⟩), .int .i64 k, .string t] w fun e w' => e = .returned (.tuple #[.string (adI lim L k t), .int .i64 (adC lim L k t)]) ∧ BY P w b lim (adL lim L k t) w' := by
  have hLw : Zq.Sh.Laid w := hL.below hb0 hL.size
  have HEn := hide (bEnc w k t hLw ht ht2)
  have HId : Hid (∀ wx, Below w.heap.size w wx → Calls Tryd.prog 25 #[.int .i64 k, .string t] wx fun e w' => e = .returned (.tuple #[.string (idS k t), .int .i64 (idC k)]) ∧ Below wx.heap.size wx w') := fun wx hb => bId wx k t (hLw.below hb hLw.size) ht2
  have HX := hide h
  by_cases hr : rfC k t = 0
  rotate_left
  · have e1 : adC lim L k t = rfC k t := by rw [adC, if_neg hr]
    have e2 : adI lim L k t = ⟨#[]⟩ := by rw [adI, e1, if_neg hr]
    have e3 : adL lim L k t = L := by rw [adL, e1, if_neg hr]
    rw [e1, e2, e3]
    obtain ⟨S, hS⟩ : ∃ S, enB k t = S := ⟨_, rfl⟩
    obtain ⟨C, hC⟩ : ∃ S, rfC k t = S := ⟨_, rfl⟩
    rw [hS, hC] at HEn
    rw [hC] at hr ⊢
    have c1 : (C != 0) = true := by simpa using hr
    clear e1 e2 e3 hS hC hr h hG hL hb0 ht ht2 hLw HId
    go_enter Tryd.func8, Tryd.ntmps8
    go_wp2_with fail
    refine HEn.out.mono ?_
    rintro _ w2 ⟨rfl, hb⟩
    have HB := hide hb
    clear hb
    go_wp2
    exact bodyPost_ret (v := .tuple #[.string ⟨#[]⟩, .int .i64 C]) (by simp [results, Tryd.results8, go_sem]) rfl ⟨rfl, BY.of_bel HX.out HB.out⟩
  · obtain ⟨hkn, htz⟩ := rf_zero hr
    obtain ⟨m, rfl⟩ : ∃ m : Nat, k = (m : Int) := ⟨k.toNat, by rcases kn_iff.1 hkn with h | h <;> omega⟩
    have hm : m < 256 := by rcases kn_iff.1 hkn with h | h <;> omega
    have e1 : idS (m : Int) t = idB m t := by simp [idS, hkn]
    have e2 : idC (m : Int) = 0 := by simp [idC, hkn]
    rw [hr] at HEn
    rw [e1, e2] at HId
    have hxx : mkB (m : Int) t = ⟨enB m t, idB m t, m, t.size⟩ := by rw [mkB, Int.toNat_natCast]
    have hC : adC lim L (m : Int) t = if (plF 5 L (mkB m t).id).isSome then 6 else if fits lim L (mkB m t) then 0 else 2 := by rw [adC, if_pos hr]
    have hidz : (idB m t).size = 32 := id_size m t
    obtain ⟨mb, v1, v2, hQ, hQP⟩ := h.1
    have HQ := hide hQ
    have HQP := hide hQP
    have HPl := h.2
    have HLK : Hid (∀ wx, Below w.heap.size w wx → (Instr.lookup 70 (.map (some mb)) (.string (idB m t)) true).run Tryd.prog wx = .ok (.tuple #[spV ((plF 5 L (idB m t)).getD (0, 0)).1 ((plF 5 L (idB m t)).getD (0, 0)).2, .bool (plF 5 L (idB m t)).isSome]) wx) := fun wx hb => (HQ.out.bel hb).map.look (x := idB m t) (by rw [hidz]; unfold maxLen; omega)
    have HC2 : Hid (∀ wx, Below w.heap.size w wx → wx.cell? ⟨b, 2, none⟩ = some (.map (some mb))) := fun wx hb => (HQ.out.bel hb).c2
    cases hp : plF 5 L (idB m t) with
    | some sp =>
      have e3 : adC lim L (m : Int) t = 6 := by rw [hC, hxx, hp]; rfl
      have e4 : adI lim L (m : Int) t = ⟨#[]⟩ := by rw [adI, e3, if_neg (by decide)]
      have e5 : adL lim L (m : Int) t = L := by rw [adL, e3, if_neg (by decide)]
      rw [e3, e4, e5]
      rw [hp] at HLK
      obtain ⟨S, hS⟩ : ∃ S, enB (m : Int) t = S := ⟨_, rfl⟩
      obtain ⟨I, hI⟩ : ∃ S, idB m t = S := ⟨_, rfl⟩
      rw [hS] at HEn
      rw [hI] at HId HLK
      simp only [Option.getD_some, Option.isSome_some] at HLK
      clear e1 e2 e3 e4 e5 hS hI h hG hL hb0 ht ht2 hLw hxx hC hidz hp hQ hQP HQP HPl hr hkn htz hm HQ
      go_enter Tryd.func8, Tryd.ntmps8
      go_wp2_with fail
      refine HEn.out.mono ?_
      rintro _ w2 ⟨rfl, hb⟩
      have HB := hide hb
      clear hb
      go_wp2_with fail
      refine (HId.out _ HB.out).mono ?_
      rintro _ w3 ⟨rfl, hb⟩
      have HB3 := hide (below_step HB.out hb)
      have hlk := HLK.out _ HB3.out
      have hc2 := HC2.out _ HB3.out
      rw [spV] at hlk
      clear hb
      go_wp2_with (refine wpList_lookup_run rfl 70 _ _ _ rfl _ _ _ rfl rfl hlk ?_)
      exact bodyPost_ret (v := .tuple #[.string ⟨#[]⟩, .int .i64 6]) (by simp [results, Tryd.results8, go_sem]) rfl ⟨rfl, BY.of_bel HX.out (below_al HB3.out _)⟩
    | none =>
      have hC2 : adC lim L (m : Int) t = if fits lim L ⟨enB m t, idB m t, m, t.size⟩ then 0 else 2 := by rw [hC, hxx, hp]; rfl
      have hI2 : adI lim L (m : Int) t = if fits lim L ⟨enB m t, idB m t, m, t.size⟩ then idB m t else ⟨#[]⟩ := by
        rw [adI, hC2, hxx]
        cases fits lim L ⟨enB m t, idB m t, m, t.size⟩ <;> rfl
      have hL2 : adL lim L (m : Int) t = if fits lim L ⟨enB m t, idB m t, m, t.size⟩ then L ++ [⟨enB m t, idB m t, m, t.size⟩] else L := by
        rw [adL, hC2, hxx]
        cases fits lim L ⟨enB m t, idB m t, m, t.size⟩ <;> rfl
      rw [hC2, hI2, hL2]
      obtain ⟨hG1, hG2, hG3, hG4⟩ := hG
      have hps := paT_size L
      have hdz : (dirB L).size = (smB L.length).size + (linesB L).size := by rw [dirB, ba_add]
      have hSz : (enB (m : Int) t).size ≤ 70000 := by
        rw [enB, if_pos hr]
        have h1 := Zq.Nm.uvarint_nine (x := t.size) (by omega)
        split
        · rw [ba_add, ba_add, b1_size, Zq.Nm.strOf_size]; omega
        · rw [plB, ← Zq.Nm.textOf_eq, ba_add, ba_add, b1_size, Zq.Nm.strOf_size]; omega
      have hsm1 := smB_size (enB (m : Int) t).size (by omega)
      have hsm2 := smB_size t.size (by omega)
      have hlz : (lineB ⟨enB m t, idB m t, m, t.size⟩).size = 33 + (smB (enB (m : Int) t).size).size + (smB t.size).size := by
        rw [lineB, ba_add, ba_add, ba_add, b1_size, hidz]
      have hOz : (hd5 ++ blbB L).data.toList.length ≤ 70000 := by rw [li_size, ba_add, hd5_size]; omega
      have hRz : (linesB L).data.toList.length ≤ 70000 := by rw [li_size]; omega
      have HRm : Hid (∀ wx, Below w.heap.size w wx → Calls Tryd.prog 27 #[.pointer (some ⟨b, 0, none⟩), .int .i64 ((enB m t).size + (lineB ⟨enB m t, idB m t, m, t.size⟩).size : Nat)] wx fun e w' => e = .returned (.bool (fits lim L ⟨enB m t, idB m t, m, t.size⟩)) ∧ Below wx.heap.size wx w') := fun wx hb => by
        have := room_any (HQ.out.bel hb) ((enB m t).size + (lineB ⟨enB m t, idB m t, m, t.size⟩).size) (by omega) (by omega) (by omega) (by omega)
        rw [fits_rm lim L ⟨enB m t, idB m t, m, t.size⟩] at this
        exact this
      have HS1 : Hid (∀ wx, Calls Tryd.prog 26 #[.int .i64 ((enB (m : Int) t).size : Int)] wx fun e w' => e = .returned (.string (smB (enB (m : Int) t).size)) ∧ Below wx.heap.size wx w') := fun wx => shrt_any _ wx (by omega)
      have HS2 : Hid (∀ wx, Calls Tryd.prog 26 #[.int .i64 (t.size : Int)] wx fun e w' => e = .returned (.string (smB t.size)) ∧ Below wx.heap.size wx w') := fun wx => shrt_any _ wx (by omega)
      have hline : lineB ⟨enB m t, idB m t, m, t.size⟩ = idB m t ++ b1 m ++ smB (enB m t).size ++ smB t.size := rfl
      obtain ⟨_, _, hcn, hcn2⟩ := conv_k hm
      have hmw : IntKind.u8.wrap (m : Int) = (m : Int) % 256 := IntKind.wrap_u8 _
      have HCV : Hid (∀ (g : Nat) (wx wy : World), wx.heap[g]? = some (.cells #[.int .u8 ((m : Int) % 256)] 5 (0, 0)) → Below wx.heap.size wx wy → (convert 58 9 (.slice (some ⟨g, 0, none⟩) 1 1)).run Tryd.prog wy = .ok (.string (b1 m)) wy ∧ wy.heap[g]? = some (.cells #[.int .u8 ((m : Int) % 256)] 5 (0, 0))) := fun g wx wy hg hb => by
        have := (hb.block g (lt_of_block hg)).trans hg
        exact ⟨by rw [← hmw] at this; exact conv_at this, this⟩
      clear hmw
      rw [hp] at HLK
      obtain ⟨fit, hfit⟩ : ∃ x, fits lim L ⟨enB m t, idB m t, m, t.size⟩ = x := ⟨_, rfl⟩
      rw [hfit] at HRm ⊢
      have hfin : Hid (∀ v1' v2' wz, PQ wz b mb v1' v2' lim ((hd5 ++ blbB L).data.toList ++ (enB (m : Int) t).data.toList) ((linesB L).data.toList ++ (lineB ⟨enB m t, idB m t, m, t.size⟩).data.toList) (L.length + 1) (fun y => if y = idB m t then some ((((hd5 ++ blbB L).data.toList.length : Nat) : Int), (((enB (m : Int) t).size : Nat) : Int)) else plF 5 L y) → Gs (Pb b mb v1 v2) w wz → (∀ i, Pb b mb v1' v2' i → Pb b mb v1 v2 i ∨ w.heap.size ≤ i) → BY P w b lim (L ++ [⟨enB m t, idB m t, m, t.size⟩]) wz) := fun v1' v2' wz hq hg hi => by
        refine ⟨fun i => Pb b mb v1' v2' i, ⟨⟨mb, v1', v2', ?_, fun i hi => hi⟩, fun i hi => hq.lt i hi⟩, hg.mono fun i _ hi => HQP.out i hi, fun i h => (hi i h).imp_left fun h => HQP.out i h⟩
        have a1 : (hd5 ++ blbB (L ++ [⟨enB m t, idB m t, m, t.size⟩])).data.toList = (hd5 ++ blbB L).data.toList ++ (enB (m : Int) t).data.toList := by rw [blb_snoc, ← ByteArray.append_assoc, ap_list]
        have a2 : (linesB (L ++ [⟨enB m t, idB m t, m, t.size⟩])).data.toList = (linesB L).data.toList ++ (lineB ⟨enB m t, idB m t, m, t.size⟩).data.toList := by rw [lines_snoc, ap_list]
        have a3 : plF 5 (L ++ [⟨enB m t, idB m t, m, t.size⟩]) = fun y => if y = idB m t then some ((((hd5 ++ blbB L).data.toList.length : Nat) : Int), (((enB (m : Int) t).size : Nat) : Int)) else plF 5 L y := by
          funext y
          rw [plF_snoc hp, li_size, ba_add, hd5_size]
        rw [a1, a2, a3, List.length_append, List.length_singleton]
        exact hq
      have HUP : Hid (∀ wx, Below w.heap.size w wx → ∃ w7, (Instr.mapUpdate 70 (.map (some mb)) (.string (idB m t)) (spV (((hd5 ++ blbB L).data.toList.length : Nat) : Int) (((enB (m : Int) t).size : Nat) : Int))).run Tryd.prog wx = .ok () w7 ∧ PQ w7 b mb v1 v2 lim (hd5 ++ blbB L).data.toList (linesB L).data.toList (L.length + 1) (fun y => if y = idB m t then some ((((hd5 ++ blbB L).data.toList.length : Nat) : Int), (((enB (m : Int) t).size : Nat) : Int)) else plF 5 L y) ∧ Gs (fun i => i = mb) wx w7) := fun wx hb => by
        have hq := HQ.out.bel hb
        obtain ⟨w7, u1, u2, u3, _⟩ := hq.map.update (by omega) (x := idB m t) (by rw [hidz]; unfold maxLen; omega) hp (((hd5 ++ blbB L).data.toList.length : Nat) : Int) (((enB (m : Int) t).size : Nat) : Int)
        exact ⟨w7, u1, hq.mapd u2 u3, u3⟩
      have HLg : Hid (∀ (v : Value) (wx : World), v = .pointer (some ⟨b, 0, none⟩) → Below w.heap.size w wx → Calls Tryd.prog 28 #[v] wx fun e w' => e = .returned (.int .i64 (((hd5 ++ blbB L).data.toList.length : Nat) : Int)) ∧ w' = wx) := fun v wx hv hb => by
        subst hv
        exact long_any (HQ.out.bel hb).g0
      rw [hline] at HRm hfin
      rw [hline] at hlz
      obtain ⟨S, hS⟩ : ∃ S, enB (m : Int) t = S := ⟨_, rfl⟩
      obtain ⟨I, hI⟩ : ∃ S, idB m t = S := ⟨_, rfl⟩
      obtain ⟨A, hA⟩ : ∃ A, smB S.size = A := ⟨_, rfl⟩
      obtain ⟨Bq, hB⟩ : ∃ A, smB t.size = A := ⟨_, rfl⟩
      obtain ⟨K, hK⟩ : ∃ A, b1 m = A := ⟨_, rfl⟩
      have hK1 : K.size = 1 := by rw [← hK]; exact b1_size m
      rw [hS, hI, hK, hA, hB] at HRm hfin hlz
      rw [hS, hI] at HUP
      rw [hI] at hidz
      rw [hS] at HEn HS1 hsm1 hSz
      rw [hA] at HS1 hsm1
      rw [hB] at HS2 hsm2
      rw [hI] at HId HLK
      rw [hK] at hcn hcn2 HCV
      rw [hS, hI] at hfit ⊢
      simp only [Option.getD_none, Option.isSome_none] at HLK
      have hRow : (I ++ K ++ A ++ Bq).size ≤ 100 := by omega
      clear e1 e2 hC hI2 hL2 hC2 hS hI hA hB hK h hG1 hG2 hG3 hG4 hL hb0 ht ht2 hLw hxx hp hQ hQP HPl hr hkn htz hm hline hfit hps hdz hlz
      have hA9 := hsm1.1
      have hB9 := hsm2.1
      clear hsm1 hsm2
      go_enter Tryd.func8, Tryd.ntmps8
      go_wp2_with fail
      refine HEn.out.mono ?_
      rintro _ w2 ⟨rfl, hb⟩
      have HB := hide hb
      clear hb
      go_wp2_with fail
      refine (HId.out _ HB.out).mono ?_
      rintro _ w3 ⟨rfl, hb⟩
      have HB3 := hide (below_step HB.out hb)
      have hlk := HLK.out _ HB3.out
      have hc2 := HC2.out _ HB3.out
      rw [spV] at hlk
      clear hb
      go_upto_region 8 with (refine wpList_lookup_run rfl 70 _ _ _ rfl _ _ _ rfl rfl hlk ?_)
      obtain ⟨W4, hW4⟩ : ∃ W4, w3.alloc (.cells #[.int .i64 0, .int .i64 0] 66) = W4 := ⟨_, rfl⟩
      have HB4 : Hid (Below w.heap.size w W4) := by rw [← hW4]; exact below_al HB3.out _
      rw [hW4]
      clear hW4 hlk hc2
      have S0 : Hid (Below W4.heap.size W4 W4 ∧ Below W4.heap.size W4 W4.drew) := ⟨Below.refl _ _, (Below.refl _ _).drew⟩
      go_cut [11] from 37 to 50 (fun row wx => row = .string (I ++ K ++ A ++ Bq) ∧ Below W4.heap.size W4 wx)
      case first =>
        have H1 : Hid (∀ (v : Value) (wx : World), v = .int .i64 (S.size : Int) → Below W4.heap.size W4 wx → Calls Tryd.prog 26 #[v] wx fun e w' => e = .returned (.string A) ∧ Below W4.heap.size W4 w' ∧ ∀ (g : Nat), wx.heap[g]? = some (.cells #[.int .u8 ((m : Int) % 256)] 5 (0, 0)) → (convert 58 9 (.slice (some ⟨g, 0, none⟩) 1 1)).run Tryd.prog w' = .ok (.string K) w' ∧ w'.heap[g]? = some (.cells #[.int .u8 ((m : Int) % 256)] 5 (0, 0))) := fun v wx hv hb => by
          subst hv
          exact (HS1.out wx).mono fun _ wy ⟨e, h⟩ => ⟨e, below_step hb h, fun g hg => HCV.out g wx wy hg h⟩
        have H2 : Hid (∀ (v : Value) (wx : World), v = .int .i64 (t.size : Int) → Below W4.heap.size W4 wx → Calls Tryd.prog 26 #[v] wx fun e w' => e = .returned (.string Bq) ∧ Below W4.heap.size W4 w' ∧ ∀ (g : Nat), wx.heap[g]? = some (.cells #[.int .u8 ((m : Int) % 256)] 5 (0, 0)) → (convert 58 9 (.slice (some ⟨g, 0, none⟩) 1 1)).run Tryd.prog w' = .ok (.string K) w' ∧ w'.heap[g]? = some (.cells #[.int .u8 ((m : Int) % 256)] 5 (0, 0))) := fun v wx hv hb => by
          subst hv
          exact (HS2.out wx).mono fun _ wy ⟨e, h⟩ => ⟨e, below_step hb h, fun g hg => HCV.out g wx wy hg h⟩
        go_region_held_law (fun w' => Below W4.heap.size W4 w') (first | assumption | exact S0.out.1 | exact S0.out.2 | exact below_al S0.out.2 _ | exact below_al (by assumption) _)
          (first
            | (go_at_call 26; refine Calls.mono (H1.out _ _ (by with_reducible rfl) (by first | assumption | exact S0.out.1 | exact S0.out.2 | exact below_al S0.out.2 _ | exact below_al (by assumption) _)) ?_; rintro e wa ⟨rfl, ha, hq⟩; (first | (have hq3 := hq _ (heap_alloc_new _ _); obtain ⟨hq1, hq2⟩ := hq3) | skip))
            | (go_at_call 26; refine Calls.mono (H2.out _ _ (by with_reducible rfl) (by first | assumption | exact S0.out.1 | exact S0.out.2 | exact below_al S0.out.2 _ | exact below_al (by assumption) _)) ?_; rintro e wd ⟨rfl, hd, hr⟩; (first | (have hr3 := hr _ (heap_alloc_new _ _); obtain ⟨hr1, hr2⟩ := hr3) | (have hr3 := hr _ (by assumption); obtain ⟨hr1, hr2⟩ := hr3) | skip)))
        all_goals
          go_wp2_with fail
          go_meet
          exact ⟨rfl, by first | assumption | exact below_al (by assumption) _⟩
      case rest =>
        obtain ⟨rfl, hbc⟩ := hcut
        have HB5 := hide (below_step HB4.out hbc)
        obtain ⟨ROW, hROW⟩ : ∃ R, I ++ K ++ A ++ Bq = R := ⟨_, rfl⟩
        rw [hROW] at HRm hfin hRow ⊢
        have w1 : IntKind.i64.wrap ((S.size : Int) + (ROW.size : Int)) = ((S.size + ROW.size : Nat) : Int) := by rw [IntKind.wrap_i64]; omega
        have HRw := hide hRow
        have HOR := hide (And.intro hOz hRz)
        clear hbc hROW hRow hcn hcn2 HCV hK1 hA9 hB9 HS1 HS2 S0 hidz hOz hRz
        have HRm5 := hide (HRm.out wc HB5.out)
        go_wp2_with fail
        rw [show (S.size : Int) + (ROW.size : Int) = ((S.size + ROW.size : Nat) : Int) by omega]
        refine HRm5.out.mono ?_
        rintro _ w6 ⟨rfl, hb⟩
        have HB6 := hide (below_step HB5.out hb)
        clear hb HRm HRm5 w1
        cases fit with
        | false =>
          go_wp2
          exact bodyPost_ret (v := .tuple #[.string ⟨#[]⟩, .int .i64 2]) (by simp [results, Tryd.results8, go_sem]) rfl ⟨rfl, BY.of_bel HX.out HB6.out⟩
        | true =>
          obtain ⟨w7, hup, hQ7, hg7⟩ := HUP.out w6.drew HB6.out.drew
          obtain ⟨ol, hol⟩ : ∃ n, (hd5 ++ blbB L).data.toList.length = n := ⟨_, rfl⟩
          rw [hol] at hup HLg
          rw [spV] at hup
          have D6 : Hid (w6.drew.cell? ⟨b, 2, none⟩ = some (.map (some mb))) := HC2.out w6.drew HB6.out.drew
          have D7 : Hid (w7.cell? ⟨b, 2, none⟩ = some (.map (some mb))) := hQ7.c2
          have BD6 : Hid (Below w.heap.size w w6 ∧ Below w.heap.size w w6.drew) := ⟨HB6.out, HB6.out.drew⟩
          have hc6 : w6.cell? ⟨b, 2, none⟩ = some (.map (some mb)) := HC2.out w6 HB6.out
          have hc6d : w6.drew.cell? ⟨b, 2, none⟩ = some (.map (some mb)) := HC2.out w6.drew HB6.out.drew
          have H7 := hide (And.intro hQ7 hg7)
          clear hQ7 hg7 hol HUP
          go_upto_region 11 with fail
          go_region_held_law (fun wx => wx.cell? ⟨b, 2, none⟩ = some (.map (some mb))) (first | with_reducible exact D6.out | with_reducible exact D7.out)
            (first
              | (go_at_call 28; refine Calls.mono (HLg.out _ _ (by with_reducible rfl) (by first | exact BD6.out.2 | exact BD6.out.1)) ?_; rintro e wa ⟨rfl, rfl⟩)
              | (refine step_mup_run rfl 70 _ _ _ rfl _ _ _ rfl rfl rfl _ hup ?_))
          have hS6 := HB6.out.size
          have hG6 : Gs (Pb b mb v1 v2) w w7 := (Gs.of_below (Pb b mb v1 v2) HB6.out.drew).trans (H7.out.2.mono fun i _ e => .inr (.inl e))
          have HG6 := hide hG6
          clear hS6 hG6
          go_wp2_with fail
          refine (write_any H7.out.1.g0 S (by have := HOR.out; omega)).mono ?_
          rintro _ w8 ⟨rfl, v1', wx1, g1, g2, g3, rfl⟩
          have hQ8 := H7.out.1.put0 g1 g2 g3
          have hG8 := HG6.out.trans (gs_put (p := Pb b mb v1 v2) g2 (.inl rfl) (fun i hi => .inr (.inr (.inl hi))) 0 v1')
          have hI8 : ∀ i, v1'.ownBlock = some i → Pb b mb v1 v2 i ∨ w.heap.size ≤ i := fun i hi => by
            rcases g3 with e | ⟨j, e, hj⟩
            · exact .inl (.inr (.inr (.inl (e.symm.trans hi))))
            · rw [e] at hi
              simp only [Option.some.injEq] at hi
              have := HG6.out.size
              exact .inr (by omega)
          obtain ⟨w8, hw8⟩ : ∃ w8, wx1.setCell ⟨b, 0, none⟩ v1' = w8 := ⟨_, rfl⟩
          rw [hw8] at hQ8 hG8 ⊢
          have H8 := hide (And.intro hQ8 (And.intro hG8 hI8))
          clear g1 g2 g3 hw8 hQ8 hG8 hI8
          go_wp2_with fail
          refine (write_any H8.out.1.g1 ROW (by have := HOR.out; have := HRw.out; omega)).mono ?_
          rintro _ w9 ⟨rfl, v2', wx2, g1, g2, g3, rfl⟩
          have hQ9 := H8.out.1.put1 g1 g2 g3
          have hG9 := H8.out.2.1.trans (gs_put (p := Pb b mb v1 v2) g2 (.inl rfl) (fun i hi => .inr (.inr (.inr hi))) 1 v2')
          have hI9 : ∀ i, Pb b mb v1' v2' i → Pb b mb v1 v2 i ∨ w.heap.size ≤ i := fun i hi => by
            rcases hi with rfl | rfl | hi | hi
            · exact .inl (.inl rfl)
            · exact .inl (.inr (.inl rfl))
            · exact H8.out.2.2 i hi
            · rcases g3 with e | ⟨j, e, hj⟩
              · exact .inl (.inr (.inr (.inr (e.symm.trans hi))))
              · rw [e] at hi
                simp only [Option.some.injEq] at hi
                have := H8.out.2.1.size
                exact .inr (by omega)
          obtain ⟨w9, hw9⟩ : ∃ w9, wx2.setCell ⟨b, 1, none⟩ v2' = w9 := ⟨_, rfl⟩
          rw [hw9] at hQ9 hG9 ⊢
          have H9 := hide (hfin.out v1' v2' w9 hQ9 hG9 hI9)
          clear g1 g2 g3 hw9 hQ9 hG9 hI9 hfin
          go_wp2
          exact bodyPost_ret (v := .tuple #[.string I, .int .i64 0]) (by simp [results, Tryd.results8, go_sem]) rfl ⟨rfl, H9.out⟩
end Go.Proofs.YtcidfkkgpehodaaDoor

namespace Go.Proofs.YtcidfkkgpehodaaDoor
open Go.RowKit Go.Lib
def stC (D : ByteArray) (p : Nat) : Int := if (kn ((q2 D p).num : Int) && !decide ((q3 D p).num = 0)) = true then (q4 D p).code else Zq.Nm.failed (q4 D p).code 140
theorem stC_eq (D : ByteArray) (p : Nat) : stC D p = if (kn ((q2 D p).num : Int) && !decide ((q3 D p).num = 0)) = true then (q4 D p).code else Zq.Nm.failed (q4 D p).code 140 := rfl
def itV (D : ByteArray) (p : Nat) (off : Int) : Value := .agg #[.string (q1 D p).txt, .string ⟨#[]⟩, .int .i64 ((q2 D p).num : Int), .int .i64 off, .int .i64 ((q3 D p).num : Int), .int .i64 ((q4 D p).num : Int)]
theorem q1_size (D : ByteArray) (p : Nat) : (q1 D p).txt.size ≤ 32 := by
  rw [q1, Zq.Nm.asked_zero]
  unfold Zq.Nm.bytesA
  split
  · exact Nat.zero_le _
  · split
    · exact Nat.zero_le _
    · show (D.extract p (p + (32 : Int).toNat)).size ≤ 32
      rw [ByteArray.size_extract]
      show min (p + 32) _ - p ≤ 32
      omega
section
variable {s : ByteArray} {b p : Nat} {wx : World}
theorem rq1 (hr : Zq.Nm.Rd 131 wx b s p 0) (hp : p ≤ s.size) (hs : s.size ≤ 140737488355328) : Calls Tryd.prog 74 #[.pointer (some ⟨b, 0, none⟩), .int .i64 32] wx fun e w' => e = .returned (.string (q1 s p).txt) ∧ Zq.Nm.Rd 131 w' b s (p1' s p) (q1 s p).code ∧ wx.grownBy w' (some b) := by
  have := Zq.Nm.rBytes_any 32 hr hp hs (by decide)
  rw [← q1] at this
  exact this
theorem rq2 (hr : Zq.Nm.Rd 131 wx b s (p1' s p) (q1 s p).code) (hp : p ≤ s.size) (hs : s.size ≤ 140737488355328) : Calls Tryd.prog 63 #[.pointer (some ⟨b, 0, none⟩), .int .i64 1] wx fun e w' => e = .returned (.int .i64 ((q2 s p).num : Nat)) ∧ Zq.Nm.Rd 131 w' b s (p2' s p) (q2 s p).code ∧ wx.grownBy w' (some b) := by
  have := Zq.Nm.rFixed_any 1 hr (q_le hp).1 hs (by decide)
  rw [← q2] at this
  exact this
theorem rq3 (hr : Zq.Nm.Rd 131 wx b s (p2' s p) (q2 s p).code) (hp : p ≤ s.size) (hs : s.size ≤ 140737488355328) : Calls Tryd.prog 64 #[.pointer (some ⟨b, 0, none⟩), .int .i64 65536] wx fun e w' => e = .returned (.int .i64 ((q3 s p).num : Nat)) ∧ Zq.Nm.Rd 131 w' b s (p3' s p) (q3 s p).code ∧ wx.grownBy w' (some b) := by
  have := Zq.Nm.rShort_any 65536 hr (q_le hp).2.1 hs
  rw [← q3] at this
  exact this
theorem rq4 (hr : Zq.Nm.Rd 131 wx b s (p3' s p) (q3 s p).code) (hp : p ≤ s.size) (hs : s.size ≤ 140737488355328) : Calls Tryd.prog 64 #[.pointer (some ⟨b, 0, none⟩), .int .i64 65536] wx fun e w' => e = .returned (.int .i64 ((q4 s p).num : Nat)) ∧ Zq.Nm.Rd 131 w' b s (p4' s p) (q4 s p).code ∧ wx.grownBy w' (some b) := by
  have := Zq.Nm.rShort_any 65536 hr (q_le hp).2.2.1 hs
  rw [← q4] at this
  exact this
end
/-- A reader's way behind a result's cells. -/
def RW (w : World) (p b : Nat) (Z : Array Value) (s : ByteArray) (at_ : Nat) (x : Int) (w' : World) : Prop :=
  w'.heap[p]? = some (.cells Z 54 (0, 0)) ∧ Zq.Nm.Rd 131 w' b s at_ x ∧ w.grownBy w' (some b) ∧ w.heap.size ≤ p ∧ b < w.heap.size
theorem wpList_store_run {ops : Array Oper} {rest : List Oper} {op : Oper} {a : Act} {w w1 : World} {Q : Exit → Act → World → Prop} (hgd : op.guard = none) (ty : TypeId) (x y : Operand) (ho : op.op = .store ty x y)
    (p v : Value) (hx : a.eval x = p) (hy : a.eval y = v) (hr : (Instr.storeAt ty p v).run Tryd.prog w = .ok () w1) (h : wpList Tryd.prog ops Q rest (a.put op.dst undef) w1) : wpList Tryd.prog ops Q (op :: rest) a w :=
  wpList_plain hgd fun _ hK => by
    unfold Oper.wp execOp
    simp only [ho, hx, hy, Sem.run_bind, Sem.run_pure, Result.andThen_ok, hr]
    exact hK _ _ h
/-- A whole block is stored into. -/
theorem store_blk {p : Nat} {T : TypeId} : ∀ (vs : List Value) (k : Nat) (Z : Array Value) (w : World), w.heap[p]? = some (.cells Z T (0, 0)) → k + vs.length = Z.size → (w.setCells p k vs).heap[p]? = some (.cells (Z.toList.take k ++ vs).toArray T (0, 0)) ∧ Gs (fun i => i = p) w (w.setCells p k vs)
  | [], k, Z, w, h, hk => by
    rw [List.length_nil, Nat.add_zero] at hk
    refine ⟨?_, Gs.refl _ _⟩
    show w.heap[p]? = _
    rw [h, List.append_nil, hk, ← Array.length_toList, List.take_length]
  | v :: vs, k, Z, w, h, hk => by
    rw [List.length_cons] at hk
    have h1 : (w.setCell ⟨p, k, none⟩ v).heap[p]? = some (.cells (Z.setIfInBounds k v) T (0, 0)) := heap_set_self h
    obtain ⟨h2, h3⟩ := store_blk vs (k + 1) (Z.setIfInBounds k v) (w.setCell ⟨p, k, none⟩ v) h1 (by rw [Array.size_setIfInBounds]; omega)
    refine ⟨?_, ((Gs.refl (fun i => i = p) w).set (a := ⟨p, k, none⟩) (.inl rfl) v).trans h3⟩
    have e : (Z.setIfInBounds k v).toList.take (k + 1) ++ vs = Z.toList.take k ++ v :: vs := by
      rw [Array.toList_setIfInBounds, List.take_add_one, List.take_set_of_le (Nat.le_refl _), List.getElem?_set_self (by rw [Array.length_toList]; omega)]
      simp
    rw [← e]
    exact h2
theorem store_at {w : World} {p : Nat} {T : TypeId} {Z cs : Array Value} (h : w.heap[p]? = some (.cells Z T (0, 0))) (hz : cs.size = Z.size) (hi : (Tryd.prog.info? T).map (·.size) = some cs.size) (h1 : cs.all (·.oneCell') = true) :
    ∃ w', (Instr.storeAt T (.pointer (some ⟨p, 0, none⟩)) (.agg cs)).run Tryd.prog w = .ok () w' ∧ w'.heap[p]? = some (.cells cs T (0, 0)) ∧ Gs (fun i => i = p) w w' := by
  obtain ⟨k1, k2⟩ := store_blk (p := p) (T := T) cs.toList 0 Z w h (by rw [Array.length_toList]; omega)
  refine ⟨_, run_storeAt_mid (P := Tryd.prog) w p 0 T cs (fun j hj => ⟨?_, by simp [World.frozen?, h]⟩) hi h1, ?_, k2⟩
  · rw [World.cell?]
    simp only [h]
    rw [Array.getElem?_eq_getElem (by simp; omega)]
    rfl
  · rw [k1]
    simp
theorem RW.ask {w w1 w2 : World} {p b at_ at2 : Nat} {Z : Array Value} {s : ByteArray} {x y : Int} (h : RW w p b Z s at_ x w1) (hr : Zq.Nm.Rd 131 w2 b s at2 y) (hg : w1.grownBy w2 (some b)) : RW w p b Z s at2 y w2 :=
  ⟨(hg.block p (lt_of_block h.1) (by have := h.2.2.2; simp; omega)).trans h.1, hr, Zq.Nm.gb_trans h.2.2.1 hg, h.2.2.2⟩
theorem RW.below {w w1 w2 : World} {p b at_ : Nat} {Z : Array Value} {s : ByteArray} {x : Int} (h : RW w p b Z s at_ x w1) (hb : Below w1.heap.size w1 w2) : RW w p b Z s at_ x w2 :=
  ⟨(hb.block p (lt_of_block h.1)).trans h.1, h.2.1.below hb h.2.1.lt, Zq.Nm.gb_trans h.2.2.1 (Zq.Nm.gb_below hb _), h.2.2.2⟩
def z6 : Array Value := #[.string ⟨#[]⟩, .string ⟨#[]⟩, .int .i64 0, .int .i64 0, .int .i64 0, .int .i64 0]
set_option maxRecDepth 100000 in
set_option maxHeartbeats 3200000 in
theorem item_any {w : World} {b p : Nat} {s : ByteArray} (off : Int) (hr : Zq.Nm.Rd 131 w b s p 0) (hp : p ≤ s.size) (hs : s.size ≤ 140737488355328) : Calls Tryd.prog 66 #[.pointer (some ⟨b, 0, none⟩), .int .i64 off] w fun e w' => e = .returned (itV s p off) ∧ Zq.Nm.Rd 131 w' b s (p4' s p) (stC s p) ∧ w.grownBy w' (some b) := by
  have A1 := hide (fun b wx hr => rq1 (s := s) (b := b) (p := p) (wx := wx) hr hp hs)
  have A2 := hide (fun b wx hr => rq2 (s := s) (b := b) (p := p) (wx := wx) hr hp hs)
  have A3 := hide (fun b wx hr => rq3 (s := s) (b := b) (p := p) (wx := wx) hr hp hs)
  have A4 := hide (fun b wx hr => rq4 (s := s) (b := b) (p := p) (wx := wx) hr hp hs)
  have hz1 := q1_size s p
  have hst := stC_eq s p
  have hk := q2_lt s p
  rw [itV]
  obtain ⟨t, ht⟩ : ∃ t, (q1 s p).txt = t := ⟨_, rfl⟩
  obtain ⟨f, hf⟩ : ∃ f, (q2 s p).num = f := ⟨_, rfl⟩
  obtain ⟨n, hn⟩ : ∃ n, (q3 s p).num = n := ⟨_, rfl⟩
  obtain ⟨m, hm⟩ : ∃ n, (q4 s p).num = n := ⟨_, rfl⟩
  obtain ⟨x1, hx1⟩ : ∃ x, (q1 s p).code = x := ⟨_, rfl⟩
  obtain ⟨x2, hx2⟩ : ∃ x, (q2 s p).code = x := ⟨_, rfl⟩
  obtain ⟨x3, hx3⟩ : ∃ x, (q3 s p).code = x := ⟨_, rfl⟩
  obtain ⟨x4, hx4⟩ : ∃ x, (q4 s p).code = x := ⟨_, rfl⟩
  obtain ⟨o1, ho1⟩ : ∃ x, p1' s p = x := ⟨_, rfl⟩
  obtain ⟨o2, ho2⟩ : ∃ x, p2' s p = x := ⟨_, rfl⟩
  obtain ⟨o3, ho3⟩ : ∃ x, p3' s p = x := ⟨_, rfl⟩
  obtain ⟨o4, ho4⟩ : ∃ x, p4' s p = x := ⟨_, rfl⟩
  rw [hf, hn, hx4] at hst
  obtain ⟨st, hst2⟩ : ∃ x, stC s p = x := ⟨_, rfl⟩
  rw [hst2] at hst
  rw [ht, ho1, hx1] at A1
  rw [ho1, hx1, hf, ho2, hx2] at A2
  rw [ho2, hx2, hn, ho3, hx3] at A3
  rw [ho3, hx3, hm, ho4, hx4] at A4
  rw [ht] at hz1
  rw [hf] at hk
  rw [ht, hf, hn, hm, ho4, hst2]
  have AC : Hid (∀ wx, Calls Tryd.prog 77 #[.string t] wx fun e w' => e = .returned (.string t) ∧ Below wx.heap.size wx w') := hide fun wx => clone_any wx t (by omega)
  clear ht hf hn hm hx1 hx2 hx3 hx4 ho1 ho2 ho3 ho4 hst2 hz1
  obtain ⟨g, hg⟩ : ∃ g, w.heap.size = g := ⟨_, rfl⟩
  obtain ⟨W1, hW1⟩ : ∃ W1, w.alloc (.cells z6 54) = W1 := ⟨_, rfl⟩
  have H1 : Hid (RW w g b z6 s p 0 W1) := by
    have hlt := hr.lt
    rw [← hW1, ← hg]
    exact ⟨heap_alloc_new w _, hr.alloc _, World.grownBy_alloc w _ _, Nat.le_refl _, hlt⟩
  have HG := hide hg
  have HW1 := hide hW1
  unfold z6 at HW1
  clear hg hW1 hr
  go_enter Tryd.func66, Tryd.ntmps66
  go_wp2_with fail
  rw [HW1.out, HG.out]
  refine (A1.out _ _ H1.out.2.1).mono ?_
  rintro _ w2 ⟨rfl, hr, hg⟩
  have H2 := hide (H1.out.ask hr hg)
  clear hr hg
  go_wp2_with fail
  refine (AC.out _).mono ?_
  rintro _ w3 ⟨rfl, hb⟩
  have H3 := hide (H2.out.below hb)
  clear hb
  go_wp2_with fail
  refine (A2.out _ _ H3.out.2.1).mono ?_
  rintro _ w4 ⟨rfl, hr, hg⟩
  have H4 := hide (H3.out.ask hr hg)
  clear hr hg
  go_wp2_with fail
  refine (A3.out _ _ H4.out.2.1).mono ?_
  rintro _ w5 ⟨rfl, hr, hg⟩
  have H5 := hide (H4.out.ask hr hg)
  clear hr hg
  go_wp2_with fail
  refine (A4.out _ _ H5.out.2.1).mono ?_
  rintro _ w6 ⟨rfl, hr, hg⟩
  have H6 := hide (H5.out.ask hr hg)
  clear hr hg H1 H2 H3 H4 H5
  obtain ⟨r, hr⟩ : ∃ r, w6.heap.size = r := ⟨_, rfl⟩
  obtain ⟨W7, hW7⟩ : ∃ W7, w6.alloc (.cells #[.string ⟨#[]⟩, .int .i64 (f : Int), .int .i64 off, .int .i64 (n : Int), .int .i64 (m : Int)] 52) = W7 := ⟨_, rfl⟩
  have H7 : Hid (RW w g b z6 s o4 x4 W7 ∧ W7.heap[r]? = some (.cells #[.string ⟨#[]⟩, .int .i64 (f : Int), .int .i64 off, .int .i64 (n : Int), .int .i64 (m : Int)] 52 (0, 0)) ∧ g < r ∧ b < r) := by
    rw [← hW7, ← hr]
    exact ⟨H6.out.below (below_al (Below.refl _ _) _), heap_alloc_new w6 _, lt_of_block H6.out.1, H6.out.2.1.lt⟩
  have HR := hide hr
  have HW7 := hide hW7
  clear hr hW7 H6
  have HS : Hid (∀ wx, wx.heap[g]? = some (.cells z6 54 (0, 0)) → ∃ wy, (Instr.storeAt 54 (.pointer (some ⟨g, 0, none⟩)) (.agg #[.string t, .string ⟨#[]⟩, .int .i64 (f : Int), .int .i64 off, .int .i64 (n : Int), .int .i64 (m : Int)])).run Tryd.prog wx = .ok () wy ∧ wy.heap[g]? = some (.cells #[.string t, .string ⟨#[]⟩, .int .i64 (f : Int), .int .i64 off, .int .i64 (n : Int), .int .i64 (m : Int)] 54 (0, 0)) ∧ Gs (fun i => i = g) wx wy) := fun wx h => store_at h rfl (by kernel_rfl) (by simp [Value.oneCell'])
  have HC : Hid (∀ wx : World, wx.heap[r]? = some (.cells #[.string ⟨#[]⟩, .int .i64 (f : Int), .int .i64 off, .int .i64 (n : Int), .int .i64 (m : Int)] 52 (0, 0)) → wx.cell? ⟨r, 0, none⟩ = some (.string ⟨#[]⟩) ∧ wx.cell? ⟨r, 1, none⟩ = some (.int .i64 (f : Int)) ∧ wx.cell? ⟨r, 2, none⟩ = some (.int .i64 off) ∧ wx.cell? ⟨r, 3, none⟩ = some (.int .i64 (n : Int)) ∧ wx.cell? ⟨r, 4, none⟩ = some (.int .i64 (m : Int))) := fun wx h => by simp [World.cell?, h]
  have HX : Hid (∀ wx y, RW w g b z6 s o4 y wx → ∀ wy : World, wy.heap[g]? = some (.cells #[.string t, .string ⟨#[]⟩, .int .i64 (f : Int), .int .i64 off, .int .i64 (n : Int), .int .i64 (m : Int)] 54 (0, 0)) → Gs (fun i => i = g) wx wy → Zq.Nm.Rd 131 wy b s o4 y ∧ w.grownBy wy (some b) ∧ wy.cell? ⟨g, 0, none⟩ = some (.string t) ∧ wy.cell? ⟨g, 1, none⟩ = some (.string ⟨#[]⟩) ∧ wy.cell? ⟨g, 2, none⟩ = some (.int .i64 (f : Int)) ∧ wy.cell? ⟨g, 3, none⟩ = some (.int .i64 off) ∧ wy.cell? ⟨g, 4, none⟩ = some (.int .i64 (n : Int)) ∧ wy.cell? ⟨g, 5, none⟩ = some (.int .i64 (m : Int))) := fun wx y hw wy h hg => by
    obtain ⟨_, h2, h3, h4, h5⟩ := hw
    refine ⟨h2.of_block (hg.block b h2.lt (by omega)), ⟨hg.os.trans h3.os, hg.tape.trans h3.tape, hg.output.trans h3.output, Nat.le_trans h3.size hg.size, fun i hi hn => (hg.block i (Nat.lt_of_lt_of_le hi h3.size) (by omega)).trans (h3.block i hi hn)⟩, ?_⟩
    simp [World.cell?, h]
  obtain ⟨d0, d1, d2, d3, d4⟩ := HC.out W7 H7.out.2.1
  obtain ⟨a, h1⟩ : ∃ a, ((f : Int) != 1) = a := ⟨_, rfl⟩
  obtain ⟨c, h2⟩ : ∃ a, ((f : Int) != 2) = a := ⟨_, rfl⟩
  obtain ⟨z, h3⟩ : ∃ a, ((n : Int) == 0) = a := ⟨_, rfl⟩
  have hbb : (kn (f : Int) && !decide (n = 0)) = !((a && c) || z) := by
    have e1 : a = !decide (f = 1) := by rw [← h1]; by_cases q : f = 1 <;> simp [q] <;> omega
    have e2 : c = !decide (f = 2) := by rw [← h2]; by_cases q : f = 2 <;> simp [q] <;> omega
    have e3 : z = decide (n = 0) := by rw [← h3]; by_cases q : n = 0 <;> simp [q]
    have e4 : kn (f : Int) = (decide (f = 1) || decide (f = 2)) := by
      rw [kn]
      by_cases q : f = 1
      · simp [q]
      · by_cases q2 : f = 2
        · simp [q2]
        · simp [q, q2]; omega
    rw [e1, e2, e3, e4]
    cases decide (f = 1) <;> cases decide (f = 2) <;> cases decide (n = 0) <;> rfl
  rw [hbb] at hst
  clear hbb
  have AF := hide (fun wx (hr : Zq.Nm.Rd 131 wx b s o4 x4) => Zq.Nm.fail_any 140 hr)
  cases hbad : ((a && c) || z)
  · rw [hbad] at hst
    have hst1 : st = x4 := by simpa using hst
    subst hst1
    obtain ⟨W9, hsr, k9, g9⟩ := HS.out W7 H7.out.1.1
    obtain ⟨r1, r2, r3, r4, r5, r6, r7, r8⟩ := HX.out W7 _ H7.out.1 W9 k9 g9
    have HF := hide (And.intro r1 r2)
    clear r1 r2 k9 g9 hst
    cases a <;> cases c <;> cases z <;> first | (exact absurd hbad (by decide)) | skip
    all_goals
      clear hbad
      rw [← HW7.out] at hsr
      go_wp2_with (refine wpList_store_run rfl _ _ _ rfl _ _ rfl rfl hsr ?_)
      go_wp2
      exact bodyPost_ret (v := .agg #[.string t, .string ⟨#[]⟩, .int .i64 (f : Int), .int .i64 off, .int .i64 (n : Int), .int .i64 (m : Int)]) (by simp [results, Tryd.results66, go_sem, r3, r4, r5, r6, r7, r8]) rfl ⟨rfl, HF.out⟩
  · rw [hbad] at hst
    have hst1 : st = Zq.Nm.failed x4 140 := by simpa using hst
    subst hst1
    clear hst
    cases a <;> cases c <;> cases z <;> first | (exact absurd hbad (by decide)) | skip
    all_goals
      clear hbad
      go_wp2_with fail
      rw [HW7.out, HR.out]
      refine (AF.out _ H7.out.1.2.1).mono ?_
      rintro _ w8 ⟨rfl, hr8, hg8⟩
      have H8 := H7.out.1.ask hr8 hg8
      obtain ⟨d0, d1, d2, d3, d4⟩ := HC.out w8 ((hg8.block r (lt_of_block H7.out.2.1) (by have := H7.out.2.2.2; simp; omega)).trans H7.out.2.1)
      obtain ⟨W9, hsr, k9, g9⟩ := HS.out w8 H8.1
      obtain ⟨r1, r2, r3, r4, r5, r6, r7, r8⟩ := HX.out w8 _ H8 W9 k9 g9
      have HF := hide (And.intro r1 r2)
      clear r1 r2 k9 g9 hr8 hg8 H8
      go_wp2_with (refine wpList_store_run rfl _ _ _ rfl _ _ rfl rfl hsr ?_)
      go_wp2
      exact bodyPost_ret (v := .agg #[.string t, .string ⟨#[]⟩, .int .i64 (f : Int), .int .i64 off, .int .i64 (n : Int), .int .i64 (m : Int)]) (by simp [results, Tryd.results66, go_sem, r3, r4, r5, r6, r7, r8]) rfl ⟨rfl, HF.out⟩
end Go.Proofs.YtcidfkkgpehodaaDoor

namespace Go.Proofs.YtcidfkkgpehodaaDoor
open Go.RowKit Go.Lib
/-- An item's cells. -/
def it6 (x : IT) : List Value := [.string x.id, .string x.pk, .int .i64 x.kind, .int .i64 x.off, .int .i64 x.long, .int .i64 x.size]
theorem it6_len (x : IT) : (it6 x).length = 6 := rfl
theorem it6_one (x : IT) : ∀ u ∈ it6 x, u.oneCell' = true := by intro u hu; simp [it6] at hu; rcases hu with rfl | rfl | rfl | rfl | rfl | rfl <;> rfl
/-- Rows are read, until something is wrong. -/
def lst (D : ByteArray) : Nat → Nat → Int → Nat → List IT → Nat × Int × Nat × List IT
  | 0, p, c, a, L => (p, c, a, L)
  | m + 1, p, c, a, L => if c = 0 then lst D m (p4' D p) (stC D p) (a + (q3 D p).num) (L ++ [itR D ⟨#[]⟩ p a]) else (p, c, a, L)
def q00 (D : ByteArray) : Zq.Nm.Ah := Zq.Nm.asked 0 (Zq.Nm.shortA D 0 4096)
def lstA (D : ByteArray) : Nat × Int × Nat × List IT := lst D (q00 D).num (0 + (q00 D).long) (q00 D).code 5 []
def NoTwo (L : List IT) : Prop := L.Pairwise fun x y => x.id ≠ y.id
instance (L : List IT) : Decidable (NoTwo L) := by unfold NoTwo; exact inferInstance
def okLs (D : ByteArray) (bytes : Nat) : Bool := (Zq.Nm.ended D (lstA D).1 (lstA D).2.1 == 0) && decide (NoTwo (lstA D).2.2.2) && decide ((lstA D).2.2.1 = 5 + bytes)
/-- How it stands when rows were read. -/
structure LI (w : World) (rb mb : Nat) (D : ByteArray) (v : Value) (p : Nat) (c : Int) (L : List IT) (wr : World) : Prop where
  be : Below w.heap.size w wr
  own : OW it6 6 54 w.heap.size v L wr
  rd : Zq.Nm.Rd 131 wr rb D p c
  set : ∃ n, MU wr mb n (fun i => L.any fun y => decide (y.id = i)) ∧ (n = L.length ↔ NoTwo L) ∧ n ≤ L.length
  rb_ : w.heap.size ≤ rb
  mb_ : w.heap.size ≤ mb
theorem noTwo_snoc {L : List IT} {x : IT} : NoTwo (L ++ [x]) ↔ NoTwo L ∧ (L.any fun y => decide (y.id = x.id)) = false := by
  rw [NoTwo, List.pairwise_append, List.any_eq_false]
  constructor
  · rintro ⟨h1, _, h3⟩
    exact ⟨h1, fun y hy => by simpa using h3 y hy x List.mem_cons_self⟩
  · rintro ⟨h1, h2⟩
    refine ⟨h1, List.pairwise_singleton _ _, fun y hy z hz => ?_⟩
    rw [List.mem_singleton] at hz
    subst hz
    simpa using h2 y hy
section
variable {w wr w' : World} {rb mb p p' : Nat} {D : ByteArray} {v : Value} {c c' : Int} {L : List IT}
theorem rd_ne_map {n : Nat} {g : ByteArray → Bool} (h : Zq.Nm.Rd 131 wr rb D p c) (hm : MU wr mb n g) : mb ≠ rb := fun e => by
  subst e
  exact hm.notCells h
theorem rd_ne_own (h : Zq.Nm.Rd 131 wr rb D p c) (ho : OW it6 6 54 w.heap.size v L wr) : v.ownBlock ≠ some rb := fun e => by
  obtain ⟨cs, h2⟩ := ho.typ rb e
  rw [show wr.heap[rb]? = _ from h] at h2
  simp at h2
theorem LI.bel (h : LI w rb mb D v p c L wr) (hb : Below wr.heap.size wr w') : LI w rb mb D v p c L w' := by
  obtain ⟨n, h1, h2⟩ := h.set
  exact ⟨below_step h.be hb, h.own.keep hb, h.rd.below hb h.rd.lt, ⟨n, h1.kb (hb.block mb h1.lt), h2⟩, h.rb_, h.mb_⟩
theorem LI.ask (h : LI w rb mb D v p c L wr) (hr : Zq.Nm.Rd 131 w' rb D p' c') (hg : wr.grownBy w' (some rb)) : LI w rb mb D v p' c' L w' := by
  obtain ⟨n, h1, h2⟩ := h.set
  exact ⟨Zq.Sh.below_gb h.be hg h.rb_ h.be.size, h.own.kb fun i hi => hg.block i (h.own.lt i hi).2 (fun e => rd_ne_own h.rd h.own (by rw [hi, e])), hr, ⟨n, h1.kb (hg.block mb h1.lt (fun e => rd_ne_map h.rd h1 (Option.some.inj e))), h2⟩, h.rb_, h.mb_⟩
end
theorem Tryd.infoIt : (Tryd.prog.info? 54).map (fun i => (i.zero, i.size, i.bytes)) = some (some (.agg #[.string ⟨#[]⟩, .string ⟨#[]⟩, .int .i64 0, .int .i64 0, .int .i64 0, .int .i64 0]), 6, 64) := by kernel_rfl
section
variable {w wr w' : World} {rb mb p p' : Nat} {D : ByteArray} {v : Value} {c c' : Int} {L : List IT}
/-- An item behind the others, and its id into the set. -/
theorem LI.app (h : LI w rb mb D v p c L wr) (x : IT) (hl : L.length ≤ 100000) (hx : x.id.size ≤ 32) :
    ∃ v' w1, (Builtin.append_ #[45, 45] 45 #[v, .slice (some ⟨wr.heap.size, 0, none⟩) 1 1]).run Tryd.prog (wr.alloc (.cells (it6 x).toArray 54)) = .ok v' w1 ∧ (∀ i, i < wr.heap.size → v.ownBlock ≠ some i → w1.heap[i]? = wr.heap[i]?) ∧ wr.heap.size ≤ w1.heap.size ∧
    ∃ w2, (Instr.mapUpdate 106 (.map (some mb)) (.string x.id) (.agg #[])).run Tryd.prog w1 = .ok () w2 ∧ LI w rb mb D v' p c (L ++ [x]) w2 ∧ (∀ i, i < wr.heap.size → v.ownBlock ≠ some i → i ≠ mb → w2.heap[i]? = wr.heap[i]?) := by
  have hb1 : Below wr.heap.size wr (wr.alloc (.cells (it6 x).toArray 54)) := below_al (Below.refl _ _) _
  have h1 := h.bel hb1
  have hS := LS.one x 54 wr it6 6 (fun _ => True) trivial
  obtain ⟨v', w1, hr, h2, h3, h4⟩ := h1.own.app it6_len (by decide) (fun y hy u hu => by
    rw [List.mem_singleton] at hy
    subst hy
    exact it6_one _ u hu) Tryd.underlying45 Tryd.infoIt rfl hS (by simp; omega) (by simp; omega) (Nat.le_trans h.be.size hb1.size)
  obtain ⟨n, m1, m2, m3⟩ := h1.set
  have hr1 : Zq.Nm.Rd 131 w1 rb D p c := h1.rd.of_block (h3.block rb h1.rd.lt (fun e => rd_ne_own h1.rd h1.own e.symm))
  have mne : v.ownBlock ≠ some mb := fun e => by
    obtain ⟨cs, q⟩ := h1.own.typ mb e
    exact m1.notCells q
  have m1' : MU w1 mb n (fun i => L.any fun y => decide (y.id = i)) := m1.kb (h3.block mb m1.lt (fun e => mne e.symm))
  obtain ⟨w2, hr2, m4, hg⟩ := m1'.update (by omega) (x := x.id) (by unfold maxLen; omega)
  have hbw1 : Below w.heap.size w w1 := by
    cases hv : v.ownBlock with
    | none =>
      rw [hv] at h3
      exact h1.be.grown h3 h1.be.size (fun k hk => by cases hk)
    | some q =>
      rw [hv] at h3
      exact h1.be.grown h3 h1.be.size (fun k hk => by cases hk; exact (h1.own.lt _ hv).1)
  have mne2 : v'.ownBlock ≠ some mb := fun e => by
    obtain ⟨cs, q⟩ := h2.typ mb e
    exact m1'.notCells q
  refine ⟨v', w1, hr, fun i hi hn => (h3.block i (Nat.lt_of_lt_of_le hi hb1.size) (fun e => hn e.symm)).trans (hb1.block i hi), Nat.le_trans hb1.size h3.size, w2, hr2, ⟨?_, ?_, ?_, ?_, h.rb_, h.mb_⟩, fun i hi hn hm => ?_⟩
  · exact hg.below hbw1 hbw1.size (fun i e => by have := h.mb_; omega)
  · exact h2.kb fun i hi => hg.block i (h2.lt i hi).2 (fun e => mne2 (by rw [hi, e]))
  · exact hr1.of_block (hg.block rb hr1.lt (fun e => rd_ne_map hr1 m1' e.symm))
  · have hfun : (fun y => if y = x.id then true else L.any fun z => decide (z.id = y)) = fun i => (L ++ [x]).any fun z => decide (z.id = i) := by
      funext y
      rw [List.any_append, List.any_cons, List.any_nil, Bool.or_false]
      by_cases e : y = x.id
      · rw [if_pos e, decide_eq_true e.symm, Bool.or_true]
      · rw [if_neg e, decide_eq_false (fun q => e q.symm), Bool.or_false]
    rw [hfun] at m4
    refine ⟨_, m4, ?_, ?_⟩
    · rw [noTwo_snoc, List.length_append, List.length_singleton]
      cases hq : (L.any fun y => decide (y.id = x.id))
      · rw [if_neg (by decide)]
        constructor
        · intro e
          exact ⟨m2.1 (by omega), rfl⟩
        · rintro ⟨e, _⟩
          rw [m2.2 e]
      · rw [if_pos rfl]
        constructor
        · intro e; omega
        · rintro ⟨_, e⟩; cases e
    · rw [List.length_append, List.length_singleton]
      split <;> omega
  · exact (hg.block i (Nat.lt_of_lt_of_le hi (Nat.le_trans hb1.size h3.size)) hm).trans ((h3.block i (Nat.lt_of_lt_of_le hi hb1.size) (fun e => hn e.symm)).trans (hb1.block i hi))
end
end Go.Proofs.YtcidfkkgpehodaaDoor

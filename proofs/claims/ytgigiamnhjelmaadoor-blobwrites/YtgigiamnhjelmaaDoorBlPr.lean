/-
  BlOwn, BlOwn2, BlText, BlProg: joined.
-/
import Derived.Test.YtgigiamnhjelmaaDoorBlHead2
import Derived.Test.YtgigiamnhjelmaaDoorLpPack
import Derived.Test.YtgigiamnhjelmaaDoorLpUnp

namespace Go.Proofs.YtgigiamnhjelmaaDoor
open Go.RowKit Go.Lib
theorem bPack : PackC Zq.Sh.Laid pkB := fun w s _ h1 h2 => pckC w s trivial h1 h2
theorem bUnp : UnpackC Zq.Sh.Laid := fun w s n _ h => unpC w s n trivial h
/-- A byte and a text, summed as two pieces. -/
theorem sum_two {w : World} {v : Value} {k : Nat} {t : ByteArray} (hL : Zq.Sh.Laid w) (hp : Zq.Sh.Pieces w v [b1 k, t]) (ht : t.size ≤ 140737488355328) : Calls Tryd.prog 19 #[v] w fun e w' => e = .returned (.string (idB k t)) ∧ Below w.heap.size w w' := by
  have e : Zq.Sh.joined [b1 k, t] = (b1 k ++ t).data.toList := by rw [ap_list, Zq.Sh.joined, List.flatMap_cons, List.flatMap_cons, List.flatMap_nil, List.append_nil]
  have h2 := Zq.Sh.sum_any hL hp (by simp) (by
    rw [e, li_size, ba_add, b1_size]
    omega)
  rw [e, ← idB] at h2
  exact h2
set_option maxRecDepth 100000 in
theorem one_any {w : World} {k : Nat} (hk : k < 256) : Calls Tryd.prog 31 #[.int .i64 (k : Int)] w fun e w' => e = .returned (.string (b1 k)) ∧ Below w.heap.size w w' := by
  obtain ⟨hcn, hcn2, hcn3, hcn4⟩ := conv_k hk
  have HB := hide (Below.refl w.heap.size w)
  obtain ⟨K, hK⟩ : ∃ K, b1 k = K := ⟨_, rfl⟩
  rw [hK] at hcn hcn2 hcn3 hcn4 ⊢
  clear hK
  go_enter Tryd.func31, Tryd.ntmps31
  go_wp2
  go_ret
  exact ⟨rfl, below_al HB.out _⟩
set_option maxRecDepth 100000 in
set_option maxHeartbeats 800000 in
theorem id_any {w : World} {k : Nat} {t : ByteArray} (hL : Zq.Sh.Laid w) (hk : k < 256) (ht : t.size ≤ 140737488355328) : Calls Tryd.prog 27 #[.int .i64 (k : Int), .string t] w fun e w' => e = .returned (.string (idB k t)) ∧ Below w.heap.size w w' := by
  have H1 := hide (one_any (w := w) hk)
  have HS : Hid (∀ (v : Value) (wx : World), Below w.heap.size w wx → Zq.Sh.Pieces wx v [b1 k, t] → Calls Tryd.prog 19 #[v] wx fun e w' => e = .returned (.string (idB k t)) ∧ Below wx.heap.size wx w') := fun v wx h hp => sum_two (hL.below h hL.size) hp ht
  obtain ⟨J, hJ⟩ : ∃ J, idB k t = J := ⟨_, rfl⟩
  obtain ⟨K, hK⟩ : ∃ K, b1 k = K := ⟨_, rfl⟩
  rw [hJ] at HS ⊢
  rw [hK] at HS H1
  clear hJ hK
  go_enter Tryd.func27, Tryd.ntmps27
  go_wp2_with fail
  refine H1.out.mono ?_
  rintro _ w2 ⟨rfl, hb⟩
  have HB := hide hb
  clear hb
  go_wp2_with fail
  refine (HS.out _ _ (below_al HB.out _) (pieces_two _ _ _ _ rfl)).mono ?_
  rintro _ w4 ⟨rfl, hb⟩
  have HB4 := hide (below_step (below_al HB.out _) hb)
  clear hb
  go_wp2
  go_ret
  exact ⟨rfl, HB4.out⟩
set_option maxRecDepth 100000 in
set_option maxHeartbeats 800000 in
theorem bId : BIdC Zq.Sh.Laid := fun w k t hL ht => by
  rcases hk : kn k with _ | _
  · have e1 : idS k t = ⟨#[]⟩ := by simp [idS, hk]
    have e2 : idC k = 1 := by simp [idC, hk]
    rw [e1, e2]
    have HK := hide hk
    clear e1 e2 hk
    go_enter Tryd.func13, Tryd.ntmps13
    go_wp2_with fail
    refine (known_call HK.out _).mono ?_
    rintro _ _ ⟨rfl, rfl⟩
    go_wp2
    exact bodyPost_ret (v := .tuple #[.string ⟨#[]⟩, .int .i64 1]) (by simp [results, Tryd.results13, go_sem]) rfl ⟨rfl, Below.refl _ _⟩
  · have e1 : idS k t = idB k.toNat t := by simp [idS, hk]
    have e2 : idC k = 0 := by simp [idC, hk]
    rw [e1, e2]
    obtain ⟨m, rfl⟩ : ∃ m : Nat, k = (m : Int) := ⟨k.toNat, by rcases kn_iff.1 hk with h | h <;> omega⟩
    have hm : m < 256 := by rcases kn_iff.1 hk with h | h <;> omega
    rw [Int.toNat_natCast]
    have HS := hide (id_any (t := t) hL hm ht)
    obtain ⟨J, hJ⟩ : ∃ J, idB m t = J := ⟨_, rfl⟩
    rw [hJ] at HS ⊢
    have HK := hide hk
    clear e1 e2 hk hJ
    go_enter Tryd.func13, Tryd.ntmps13
    go_wp2_with fail
    refine (known_call HK.out _).mono ?_
    rintro _ _ ⟨rfl, rfl⟩
    go_wp2_with fail
    refine HS.out.mono ?_
    rintro _ w2 ⟨rfl, hb⟩
    have HB := hide hb
    clear hb
    go_wp2
    exact bodyPost_ret (v := .tuple #[.string J, .int .i64 0]) (by simp [results, Tryd.results13, go_sem]) rfl ⟨rfl, HB.out⟩
end Go.Proofs.YtgigiamnhjelmaaDoor

namespace Go.Proofs.YtgigiamnhjelmaaDoor
open Go.RowKit Go.Lib
set_option maxRecDepth 100000 in
set_option maxHeartbeats 1600000 in
theorem bEnc : BEncC Zq.Sh.Laid := fun w k t hL h1 h2 => by
  rcases hk : kn k with _ | _
  · have e2 : rfC k t = 1 := by simp [rfC, hk]
    have e1 : enB k t = ⟨#[]⟩ := by rw [enB, if_neg (by rw [e2]; decide)]
    rw [e1, e2]
    have HK := hide hk
    clear e1 e2 hk h1
    go_enter Tryd.func15, Tryd.ntmps15
    go_wp2_with fail
    refine (known_call HK.out _).mono ?_
    rintro _ _ ⟨rfl, rfl⟩
    go_wp2
    exact bodyPost_ret (v := .tuple #[.string ⟨#[]⟩, .int .i64 1]) (by simp [results, Tryd.results15, go_sem]) rfl ⟨rfl, Below.refl _ _⟩
  by_cases ht : t.size ≤ 65536
  rotate_left
  · have e2 : rfC k t = 2 := by simp [rfC, hk, ht]
    have e1 : enB k t = ⟨#[]⟩ := by rw [enB, if_neg (by rw [e2]; decide)]
    have c1 : (65536 : Int) < (t.size : Int) := by omega
    rw [e1, e2]
    have HK := hide hk
    clear e1 e2 hk h1 ht
    go_enter Tryd.func15, Tryd.ntmps15
    go_wp2_with fail
    refine (known_call HK.out _).mono ?_
    rintro _ _ ⟨rfl, rfl⟩
    go_wp2
    exact bodyPost_ret (v := .tuple #[.string ⟨#[]⟩, .int .i64 2]) (by simp [results, Tryd.results15, go_sem]) rfl ⟨rfl, Below.refl _ _⟩
  · have e2 : rfC k t = 0 := by simp [rfC, hk, ht]
    have c1 : ¬ (65536 : Int) < (t.size : Int) := by omega
    obtain ⟨m, rfl⟩ : ∃ m : Nat, k = (m : Int) := ⟨k.toNat, by rcases kn_iff.1 hk with h | h <;> omega⟩
    have hm : m = 1 ∨ m = 2 := by rcases kn_iff.1 hk with h | h <;> omega
    have ht3 : t.size ≤ 3000 := by omega
    have HS := hide (fun wx => Zq.Nm.short_any t.size wx (by omega))
    have HP : Hid (∀ wx, Calls Tryd.prog 17 #[.string t] wx fun e w' => e = .returned (.tuple #[.string (pkB t), .int .i64 0]) ∧ Below wx.heap.size wx w') := fun wx => by
      have h2 := pckC wx t trivial (.inl (by omega)) (by omega)
      rw [pkV, if_pos (by omega)] at h2
      exact h2
    have hor : bits .or .i64 (m : Int) 16 = ((m + 16 : Nat) : Int) := by rcases hm with rfl | rfl <;> decide
    have hy := hd_size10 (t := t) 0 ht
    rw [hd_size] at hy
    have hlz : (Zq.Nm.strOf (uvarint t.size)).size ≤ 10 := by rw [Zq.Nm.strOf_size]; omega
    rw [e2]
    by_cases hl : (pkB t).size < t.size
    · rw [en_packed e2 hl, hdB]
      have hM : m + 16 < 256 := by omega
      have HO : Hid (∀ wx, Calls Tryd.prog 31 #[.int .i64 ((m + 16 : Nat) : Int)] wx fun e w' => e = .returned (.string (b1 (m + 16))) ∧ Below wx.heap.size wx w') := fun wx => one_any (w := wx) hM
      have hbz := b1_size (m + 16)
      obtain ⟨M, hMM⟩ : ∃ M, m + 16 = M := ⟨_, rfl⟩
      rw [hMM] at HO hor hM hbz ⊢
      obtain ⟨L, hLL⟩ : ∃ L, Zq.Nm.strOf (uvarint t.size) = L := ⟨_, rfl⟩
      obtain ⟨Q, hQ⟩ : ∃ Q, pkB t = Q := ⟨_, rfl⟩
      obtain ⟨B, hB⟩ : ∃ B, b1 M = B := ⟨_, rfl⟩
      rw [hLL] at HS hlz ⊢
      rw [hQ] at HP hl ⊢
      rw [hB] at HO hbz ⊢
      have c2 : (Q.size : Int) < (t.size : Int) := by omega
      have hQz : Q.size ≤ 3000 := by omega
      obtain ⟨U, hU⟩ : ∃ U, B ++ L = U := ⟨_, rfl⟩
      have hUz : U.size ≤ 11 := by rw [← hU, ba_add]; omega
      obtain ⟨E, hE⟩ : ∃ E, U ++ Q = E := ⟨_, rfl⟩
      rw [hU, hE]
      have HK := hide hk
      clear hk h1 ht e2 hm hl hMM hLL hQ hB ht3 hy
      go_enter Tryd.func15, Tryd.ntmps15
      go_wp2_with fail
      refine (known_call HK.out _).mono ?_
      rintro _ _ ⟨rfl, rfl⟩
      go_wp2_with fail
      refine (HP.out _).mono ?_
      rintro _ w2 ⟨rfl, hb⟩
      have HB2 := hide hb
      clear hb
      go_wp2_with fail
      refine (HS.out _).mono ?_
      rintro _ w3 ⟨rfl, hb⟩
      have HB3 := hide (below_step HB2.out hb)
      clear hb
      go_wp2_with fail
      refine (HO.out _).mono ?_
      rintro _ w4 ⟨rfl, hb⟩
      have HB4 := hide (below_step HB3.out hb)
      clear hb
      go_wp2
      exact bodyPost_ret (v := .tuple #[.string E, .int .i64 0]) (by simp [results, Tryd.results15, go_sem]) rfl ⟨rfl, HB4.out⟩
    · rw [en_plain e2 hl, pl_eq, hdB]
      have hM : m < 256 := by omega
      have HO : Hid (∀ wx, Calls Tryd.prog 31 #[.int .i64 (m : Int)] wx fun e w' => e = .returned (.string (b1 m)) ∧ Below wx.heap.size wx w') := fun wx => one_any (w := wx) hM
      have hbz := b1_size m
      obtain ⟨L, hLL⟩ : ∃ L, Zq.Nm.strOf (uvarint t.size) = L := ⟨_, rfl⟩
      obtain ⟨Q, hQ⟩ : ∃ Q, pkB t = Q := ⟨_, rfl⟩
      obtain ⟨B, hB⟩ : ∃ B, b1 m = B := ⟨_, rfl⟩
      rw [hLL] at HS hlz ⊢
      rw [hQ] at HP hl
      rw [hB] at HO hbz ⊢
      have c2 : ¬ (Q.size : Int) < (t.size : Int) := by omega
      obtain ⟨U, hU⟩ : ∃ U, B ++ L = U := ⟨_, rfl⟩
      have hUz : U.size ≤ 11 := by rw [← hU, ba_add]; omega
      obtain ⟨E, hE⟩ : ∃ E, U ++ t = E := ⟨_, rfl⟩
      rw [hU, hE]
      have HK := hide hk
      clear hk h1 ht e2 hm hl hLL hQ hB hy hor
      go_enter Tryd.func15, Tryd.ntmps15
      go_wp2_with fail
      refine (known_call HK.out _).mono ?_
      rintro _ _ ⟨rfl, rfl⟩
      go_wp2_with fail
      refine (HP.out _).mono ?_
      rintro _ w2 ⟨rfl, hb⟩
      have HB2 := hide hb
      clear hb
      go_wp2_with fail
      refine (HS.out _).mono ?_
      rintro _ w3 ⟨rfl, hb⟩
      have HB3 := hide (below_step HB2.out hb)
      clear hb
      go_wp2_with fail
      refine (HO.out _).mono ?_
      rintro _ w4 ⟨rfl, hb⟩
      have HB4 := hide (below_step HB3.out hb)
      clear hb
      go_wp2
      exact bodyPost_ret (v := .tuple #[.string E, .int .i64 0]) (by simp [results, Tryd.results15, go_sem]) rfl ⟨rfl, HB4.out⟩
end Go.Proofs.YtgigiamnhjelmaaDoor

namespace Go.Proofs.YtgigiamnhjelmaaDoor
open Go.RowKit Go.Lib
/-- What stands behind a head, and whether it is a text. -/
def txS (f n : Nat) (t : ByteArray) : ByteArray × Bool := if f / 16 % 2 = 1 then (upS t n, upC t n == 0) else if t.size = n then (t, true) else (⟨#[]⟩, false)
theorem dc_tx {s : ByteArray} (h : okH s = true) : dcB s = if (txS (fb s) (lnB s) (s.extract (atB s) s.size)).2 = true then some (kd (fb s), (txS (fb s) (lnB s) (s.extract (atB s) s.size)).1) else none := by
  obtain ⟨h0, hf, hA, h4, h5, h6, h7⟩ := hd_yes h
  have hz : (s.extract (atB s) s.size).size = s.size - atB s := by rw [ByteArray.size_extract]; omega
  rw [dcB, if_pos h, txS, hz, kd]
  by_cases c : fb s < 16
  · have c1 : ¬ fb s / 16 % 2 = 1 := by omega
    rw [if_pos c, if_neg c1, if_neg c1]
    by_cases d : s.size - atB s = lnB s
    · rw [if_pos d, if_pos d, if_pos rfl]
    · rw [if_neg d, if_neg d, if_neg (by decide)]
  · have c1 : fb s / 16 % 2 = 1 := by omega
    rw [if_neg c, if_pos c1, if_pos c1]
    by_cases d : upC (s.extract (atB s) s.size) (lnB s) = 0
    · rw [if_pos d, if_pos (by simpa using d)]
    · rw [if_neg d, if_neg (by simpa using d)]
set_option maxRecDepth 100000 in
set_option maxHeartbeats 1600000 in
theorem text_any {w : World} {f n : Nat} {t : ByteArray} (hL : Zq.Sh.Laid w) (hf : f < 256) (ht : t.size ≤ 4000) : Calls Tryd.prog 24 #[.agg #[.int .i64 (f : Int), .int .i64 (n : Int), .string t]] w fun e w' => e = .returned (.tuple #[.string (txS f n t).1, .bool (txS f n t).2]) ∧ Below w.heap.size w w' := by
  have ha := kd_and hf
  have HU : Hid (∀ wx, Below w.heap.size w wx → Calls Tryd.prog 44 #[.string t, .int .i64 (n : Int)] wx fun e w' => e = .returned (.tuple #[.string (upS t n), .int .i64 (upC t n)]) ∧ Below wx.heap.size wx w') := fun wx h => bUnp wx t n (hL.below h hL.size) ht
  have HC : Hid (∀ wx, Calls Tryd.prog 45 #[.string t] wx fun e w' => e = .returned (.string t) ∧ Below wx.heap.size wx w') := fun wx => clone_any wx t ht
  have HB := hide (below_al (Below.refl w.heap.size w))
  rw [txS]
  by_cases c : f / 16 % 2 = 1
  · rw [if_pos c] at ha ⊢
    obtain ⟨U, hU⟩ : ∃ U, upS t (n : Int) = U := ⟨_, rfl⟩
    obtain ⟨C, hC⟩ : ∃ C, upC t (n : Int) = C := ⟨_, rfl⟩
    rw [hU, hC] at HU ⊢
    clear hU hC c ht
    go_enter Tryd.func24, Tryd.ntmps24
    go_wp2_with fail
    refine (HU.out _ (HB.out _)).mono ?_
    rintro _ w2 ⟨rfl, hb⟩
    have HB2 := hide (below_step (HB.out _) hb)
    clear hb
    go_wp2
    exact bodyPost_ret (v := .tuple #[.string U, .bool (C == 0)]) (by simp [results, Tryd.results24, go_sem]) rfl ⟨rfl, HB2.out⟩
  · rw [if_neg c] at ha ⊢
    by_cases d : t.size = n
    · rw [if_pos d]
      have d1 : ((t.size : Int) != (n : Int)) = false := by simp [d]
      have d2 : (t.size : Int) = (n : Int) := by omega
      clear c d ht
      go_enter Tryd.func24, Tryd.ntmps24
      go_wp2_with fail
      refine (HC.out _).mono ?_
      rintro _ w2 ⟨rfl, hb⟩
      have HB2 := hide (below_step (HB.out _) hb)
      clear hb
      go_wp2
      exact bodyPost_ret (v := .tuple #[.string t, .bool true]) (by simp [results, Tryd.results24, go_sem]) rfl ⟨rfl, HB2.out⟩
    · rw [if_neg d]
      have d2 : ¬ (t.size : Int) = (n : Int) := by omega
      clear c d ht
      go_enter Tryd.func24, Tryd.ntmps24
      go_wp2
      exact bodyPost_ret (v := .tuple #[.string ⟨#[]⟩, .bool false]) (by simp [results, Tryd.results24, go_sem]) rfl ⟨rfl, HB.out _⟩
end Go.Proofs.YtgigiamnhjelmaaDoor

namespace Go.Proofs.YtgigiamnhjelmaaDoor
open Go.RowKit Go.Lib
theorem h3_size (s : ByteArray) : (h3 s).txt.size ≤ s.size := by
  rw [h3, Zq.Nm.asked]
  split
  · unfold Zq.Nm.bytesA
    split
    · exact Nat.zero_le _
    · split
      · exact Nat.zero_le _
      · simp
        omega
  · exact Nat.zero_le _
set_option maxRecDepth 100000 in
set_option maxHeartbeats 800000 in
theorem bSize : BSizeC Zq.Sh.Laid := fun w s _ hs => by
  have HA := hide (ahead_any (w := w) (s := s) (by omega))
  rcases ho : okH s with _ | _
  · obtain ⟨e1, _, e3, _⟩ := hd_no ho
    rw [e1, e3]
    rw [ho, hdV] at HA
    obtain ⟨f, hf⟩ : ∃ f, (h1 s).num = f := ⟨_, rfl⟩
    obtain ⟨n, hn⟩ : ∃ n, (h2 s).num = n := ⟨_, rfl⟩
    obtain ⟨t, ht⟩ : ∃ t, (h3 s).txt = t := ⟨_, rfl⟩
    rw [hf, hn, ht] at HA
    clear hf hn ht ho e1 e3
    go_enter Tryd.func8, Tryd.ntmps8
    go_wp2_with fail
    refine HA.out.mono ?_
    rintro _ w2 ⟨rfl, hb⟩
    have HB := hide hb
    clear hb
    go_wp2
    exact bodyPost_ret (v := .tuple #[.int .i64 0, .int .i64 130]) (by simp [results, Tryd.results8, go_sem]) rfl ⟨rfl, below_al HB.out _⟩
  · obtain ⟨g1, g2, g3⟩ := (heads s).2.2.2.2 ho
    obtain ⟨_, _, _, _, _, _, e3⟩ := hd_yes ho
    rw [ho, hdV, g1, g2, g3] at HA
    rw [e3]
    obtain ⟨f, hf⟩ : ∃ f, fb s = f := ⟨_, rfl⟩
    obtain ⟨n, hn⟩ : ∃ n, lnB s = n := ⟨_, rfl⟩
    obtain ⟨t, ht⟩ : ∃ t, s.extract (atB s) s.size = t := ⟨_, rfl⟩
    rw [hf, hn, ht] at HA
    rw [hn]
    clear hf hn ht ho e3 g1 g2 g3
    go_enter Tryd.func8, Tryd.ntmps8
    go_wp2_with fail
    refine HA.out.mono ?_
    rintro _ w2 ⟨rfl, hb⟩
    have HB := hide hb
    clear hb
    go_wp2
    exact bodyPost_ret (v := .tuple #[.int .i64 (n : Int), .int .i64 0]) (by simp [results, Tryd.results8, go_sem]) rfl ⟨rfl, below_al HB.out _⟩
set_option maxRecDepth 100000 in
set_option maxHeartbeats 1600000 in
theorem bDec : BDecC Zq.Sh.Laid := fun w s hL hs _ => by
  have HA := hide (ahead_any (w := w) (s := s) (by omega))
  rcases ho : okH s with _ | _
  · obtain ⟨_, _, _, e4⟩ := hd_no ho
    rw [e4]
    rw [ho, hdV] at HA
    obtain ⟨f, hf⟩ : ∃ f, (h1 s).num = f := ⟨_, rfl⟩
    obtain ⟨n, hn⟩ : ∃ n, (h2 s).num = n := ⟨_, rfl⟩
    obtain ⟨t, ht⟩ : ∃ t, (h3 s).txt = t := ⟨_, rfl⟩
    rw [hf, hn, ht] at HA
    simp only [dK, dT, dC]
    clear hf hn ht ho e4
    go_enter Tryd.func9, Tryd.ntmps9
    go_wp2_with fail
    refine HA.out.mono ?_
    rintro _ w2 ⟨rfl, hb⟩
    have HB := hide hb
    clear hb
    go_wp2
    exact bodyPost_ret (v := .tuple #[.int .i64 0, .string ⟨#[]⟩, .int .i64 130]) (by simp [results, Tryd.results9, go_sem]) rfl ⟨rfl, below_al HB.out _⟩
  · obtain ⟨g1, g2, g3⟩ := (heads s).2.2.2.2 ho
    obtain ⟨_, hf0, _⟩ := hd_yes ho
    have hz := h3_size s
    rw [dc_tx ho]
    rw [ho, hdV, g1, g2, g3] at HA
    rw [g3] at hz
    obtain ⟨f, hf⟩ : ∃ f, fb s = f := ⟨_, rfl⟩
    obtain ⟨n, hn⟩ : ∃ n, lnB s = n := ⟨_, rfl⟩
    obtain ⟨t, ht⟩ : ∃ t, s.extract (atB s) s.size = t := ⟨_, rfl⟩
    rw [hf, hn, ht] at HA ⊢
    rw [hf] at hf0
    rw [ht] at hz
    clear hf hn ht ho g1 g2 g3
    have hfl : f < 256 := by omega
    have HT : Hid (∀ wx, Below w.heap.size w wx → Calls Tryd.prog 24 #[.agg #[.int .i64 (f : Int), .int .i64 (n : Int), .string t]] wx fun e w' => e = .returned (.tuple #[.string (txS f n t).1, .bool (txS f n t).2]) ∧ Below wx.heap.size wx w') := fun wx h => text_any (hL.below h hL.size) hfl (by omega)
    have HK : Hid (∀ wx, Calls Tryd.prog 25 #[.agg #[.int .i64 (f : Int), .int .i64 (n : Int), .string t]] wx fun e w' => e = .returned (.int .i64 ((kd f : Nat) : Int)) ∧ Below wx.heap.size wx w') := fun wx => kind_any hfl _ _
    obtain ⟨T, hT⟩ : ∃ T, (txS f n t).1 = T := ⟨_, rfl⟩
    obtain ⟨k, hk⟩ : ∃ k, kd f = k := ⟨_, rfl⟩
    rw [hT] at HT ⊢
    rw [hk] at HK ⊢
    rcases hB : (txS f n t).2 with _ | _
    · rw [hB] at HT
      rw [if_neg (by decide)]
      simp only [dK, dT, dC]
      clear hT hk hB hz hf0
      go_enter Tryd.func9, Tryd.ntmps9
      go_wp2_with fail
      refine HA.out.mono ?_
      rintro _ w2 ⟨rfl, hb⟩
      have HB := hide hb
      clear hb
      go_wp2_with fail
      refine (HT.out _ (below_al HB.out _)).mono ?_
      rintro _ w3 ⟨rfl, hb⟩
      have HB3 := hide (below_step (below_al HB.out _) hb)
      clear hb
      go_wp2
      exact bodyPost_ret (v := .tuple #[.int .i64 0, .string ⟨#[]⟩, .int .i64 130]) (by simp [results, Tryd.results9, go_sem]) rfl ⟨rfl, HB3.out⟩
    · rw [hB] at HT
      rw [if_pos rfl]
      simp only [dK, dT, dC]
      clear hT hk hB hz hf0
      go_enter Tryd.func9, Tryd.ntmps9
      go_wp2_with fail
      refine HA.out.mono ?_
      rintro _ w2 ⟨rfl, hb⟩
      have HB := hide hb
      clear hb
      obtain ⟨r, hr⟩ : ∃ r, w2.heap.size = r := ⟨_, rfl⟩
      obtain ⟨w3, hw3⟩ : ∃ w3, w2.alloc (.cells #[.int .i64 (f : Int), .int .i64 (n : Int), .string t] 48) = w3 := ⟨_, rfl⟩
      have H3 : Hid (Below w.heap.size w w3 ∧ w3.heap[r]? = some (.cells #[.int .i64 (f : Int), .int .i64 (n : Int), .string t] 48 (0, 0))) := by
        rw [← hw3, ← hr]
        exact ⟨below_al HB.out _, heap_alloc_new w2 _⟩
      have HW3 := hide hw3
      have HR := hide hr
      clear hw3 hr
      go_wp2_with fail
      rw [HW3.out, HR.out]
      refine (HT.out _ H3.out.1).mono ?_
      rintro _ w4 ⟨rfl, hb⟩
      have H4 : Hid (Below w.heap.size w w4 ∧ w4.heap[r]? = some (.cells #[.int .i64 (f : Int), .int .i64 (n : Int), .string t] 48 (0, 0))) := ⟨below_step H3.out.1 hb, (hb.block r (lt_of_block H3.out.2)).trans H3.out.2⟩
      clear hb
      obtain ⟨d0, d1, d2⟩ := cell3 H4.out.2
      go_wp2_with fail
      refine (HK.out _).mono ?_
      rintro _ w5 ⟨rfl, hb⟩
      have HB5 := hide (below_step H4.out.1 hb)
      clear hb
      go_wp2
      exact bodyPost_ret (v := .tuple #[.int .i64 (k : Int), .string T, .int .i64 0]) (by simp [results, Tryd.results9, go_sem]) rfl ⟨rfl, HB5.out⟩
set_option maxRecDepth 100000 in
set_option maxHeartbeats 1600000 in
theorem bOpen : BOpenC Zq.Sh.Laid := fun w s i hL hs hl => by
  have HD := hide (bDec w s hL hs hl)
  rcases hd : dcB s with _ | ⟨k, t⟩
  · rw [op_none hd]
    rw [hd] at HD
    simp only [dK, dT, dC] at HD ⊢
    clear hd
    go_enter Tryd.func11, Tryd.ntmps11
    go_wp2_with fail
    refine HD.out.mono ?_
    rintro _ w2 ⟨rfl, hb⟩
    have HB := hide hb
    clear hb
    go_wp2
    exact bodyPost_ret (v := .tuple #[.int .i64 0, .string ⟨#[]⟩, .int .i64 130]) (by simp [results, Tryd.results11, go_sem]) rfl ⟨rfl, HB.out⟩
  · obtain ⟨hk, ht⟩ := dc_small hd
    have HS : Hid (∀ wx, Below w.heap.size w wx → Calls Tryd.prog 27 #[.int .i64 (k : Int), .string t] wx fun e w' => e = .returned (.string (idB k t)) ∧ Below wx.heap.size wx w') := fun wx h => id_any (hL.below h hL.size) (by omega) (by omega)
    rw [hd] at HD
    by_cases hi : idB k t = i
    · rw [op_ok hd hi]
      simp only [dK, dT, dC] at HD ⊢
      rw [hi] at HS
      clear hd hi ht
      go_enter Tryd.func11, Tryd.ntmps11
      go_wp2_with fail
      refine HD.out.mono ?_
      rintro _ w2 ⟨rfl, hb⟩
      have HB := hide hb
      clear hb
      go_wp2_with fail
      refine (HS.out _ HB.out).mono ?_
      rintro _ w3 ⟨rfl, hb⟩
      have HB3 := hide (below_step HB.out hb)
      clear hb
      go_wp2
      exact bodyPost_ret (v := .tuple #[.int .i64 (k : Int), .string t, .int .i64 0]) (by simp [results, Tryd.results11, go_sem]) rfl ⟨rfl, HB3.out⟩
    · rw [op_other hd hi]
      simp only [dK, dT, dC] at HD ⊢
      obtain ⟨J, hJ⟩ : ∃ J, idB k t = J := ⟨_, rfl⟩
      rw [hJ] at HS hi
      have hne := ne_list (fun e => hi e.symm)
      clear hd ht hJ hi
      go_enter Tryd.func11, Tryd.ntmps11
      go_wp2_with fail
      refine HD.out.mono ?_
      rintro _ w2 ⟨rfl, hb⟩
      have HB := hide hb
      clear hb
      go_wp2_with fail
      refine (HS.out _ HB.out).mono ?_
      rintro _ w3 ⟨rfl, hb⟩
      have HB3 := hide (below_step HB.out hb)
      clear hb
      go_wp2
      exact bodyPost_ret (v := .tuple #[.int .i64 0, .string ⟨#[]⟩, .int .i64 130]) (by simp [results, Tryd.results11, go_sem]) rfl ⟨rfl, HB3.out⟩
end Go.Proofs.YtgigiamnhjelmaaDoor

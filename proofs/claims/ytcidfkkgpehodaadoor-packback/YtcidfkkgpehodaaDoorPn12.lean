/-
  Contracts of the program and of the statements (part 12 of 12).
-/
import Derived.Test.YtcidfkkgpehodaaDoorPn11
import Derived.Deep.RegionHeldLaw
import Derived.ProofKit
import Derived.LaidMore
import Derived.OpenShut
import Derived.SizedLaws
import Derived.Stop.Joined

namespace Go.Proofs.YtcidfkkgpehodaaDoor
open Go.RowKit Go.Lib
theorem pn_list (i : ByteArray) : (pnB i).data.toList = nm5.data.toList ++ Zq.Sh.hexOf i.data.toList := by rw [pnB, ap_list, hxB, Zq.Sh.strOf]
theorem pn_size (i : ByteArray) : (pnB i).size = 5 + 2 * i.size := by rw [← li_size, pn_list, List.length_append, Zq.Sh.hexOf_length, li_size]; rfl
theorem pfx_of {n : ByteArray} {r : List UInt8} (h : n.data.toList = nm5.data.toList ++ r) : pfx n = true ∧ (dgs n).data.toList = r := by
  have h1 : Lib.hasPrefix n.data.toList nm5.data.toList = true := by
    rw [Lib.hasPrefix, List.isPrefixOf_iff_prefix, h]
    exact ⟨r, rfl⟩
  refine ⟨h1, ?_⟩
  rw [dgs, Lib.trimPrefix, if_pos h1, h]
  exact List.drop_left
theorem pfx_iff {n : ByteArray} : pfx n = true ↔ ∃ r, n.data.toList = nm5.data.toList ++ r := by
  rw [pfx, Lib.hasPrefix, List.isPrefixOf_iff_prefix]
  exact ⟨fun ⟨r, h⟩ => ⟨r, h.symm⟩, fun ⟨r, h⟩ => ⟨r, h.symm⟩⟩
theorem strOf_list (s : ByteArray) : Zq.Sh.strOf s.data.toList = s := by rw [Zq.Sh.strOf, arr_list]
theorem idO_name {i : ByteArray} (h : i.size = 32) : idO (pnB i) = some i := by
  obtain ⟨h1, h2⟩ := pfx_of (pn_list i)
  rw [idO, if_pos h1, h2, Zq.Sh.unhex_hex]
  simp only
  rw [if_pos (by rw [li_size, h]), strOf_list]
theorem idO_more {i : ByteArray} (h : i.size = 32) : idO (pnB i ++ ⟨#[48]⟩) = none := by
  obtain ⟨h1, h2⟩ := pfx_of (n := pnB i ++ ⟨#[48]⟩) (r := Zq.Sh.hexOf i.data.toList ++ [48]) (by rw [ap_list, pn_list, List.append_assoc])
  rw [idO, if_pos h1, h2, Zq.Sh.unhexL_odd 32 _ (by rw [List.length_append, Zq.Sh.hexOf_length, li_size, h]; rfl)]
theorem idO_less {i : ByteArray} : idO ((pnB i).extract 1 (pnB i).size) = none := by
  have h1 : pfx ((pnB i).extract 1 (pnB i).size) = false := by
    rw [← Bool.not_eq_true, pfx_iff]
    rintro ⟨r, e⟩
    rw [ex_list, pn_list, List.take_of_length_le (by rw [List.length_drop, ← pn_list, li_size]; exact Nat.le_refl _)] at e
    have e2 : [97, 99, 107, 47] ++ Zq.Sh.hexOf i.data.toList = [112, 97, 99, 107, 47] ++ r := e
    rw [List.cons_append, List.cons_append] at e2
    injection e2 with e3
    exact absurd e3 (by decide)
  rw [idO, h1, if_neg (by decide)]
theorem unhex_back {X T : List UInt8} (h : Zq.Sh.unhexL X = some T) : Zq.Sh.hexOf T = X := by
  have hl := Zq.Sh.unhexL_some X.length X T (Nat.le_refl _) h
  by_cases hg : ∀ x ∈ X, Zq.Sh.digV x.toNat ≠ 16
  · obtain ⟨T', h1, h2⟩ := Zq.Sh.unhex_good T.length X hl hg
    rw [h] at h1
    rw [Option.some.inj h1, h2]
  · have hb : ∃ x ∈ X, Zq.Sh.digV x.toNat = 16 := by
      refine Classical.byContradiction fun e => hg fun x hx q => e ⟨x, hx, q⟩
    rw [Zq.Sh.unhex_bad T.length X hl hb] at h
    cases h
theorem idO_back {n j : ByteArray} (h : idO n = some j) : pnB j = n ∧ j.size = 32 := by
  rw [idO] at h
  by_cases h1 : pfx n = true
  · rw [if_pos h1] at h
    obtain ⟨r, e⟩ := pfx_iff.1 h1
    rw [(pfx_of e).2] at h
    rcases hu : Zq.Sh.unhexL r with _ | T
    · rw [hu] at h; cases h
    · rw [hu] at h
      simp only at h
      by_cases h32 : T.length = 32
      · rw [if_pos h32] at h
        have hj := Option.some.inj h
        have hjl : j.data.toList = T := by rw [← hj, Zq.Sh.strOf]
        refine ⟨ba_ext ?_, by rw [← li_size, hjl, h32]⟩
        rw [pn_list, hjl, unhex_back hu, e]
      · rw [if_neg h32] at h; cases h
  · rw [if_neg h1] at h; cases h
set_option maxRecDepth 100000 in
set_option maxHeartbeats 4000000 in
theorem names14 {w : World} (hL : Zq.Sh.Laid w) (i : ByteArray) (x c : Int) (hc : 0 ≤ c ∧ c ≤ 255) : Calls Tryd.prog 5 #[.string i, .int .i64 x, .int .u8 c] w fun e w' => e = .returned (.bool true) ∧ Below w.heap.size w w' := by
  have HW := hide (works14 hL)
  by_cases h32 : i.size = 32
  rotate_left
  · have c1 : ((i.size : Int) != 32) = true := by simp; omega
    clear h32 hL
    go_enter Tryd.func5, Tryd.ntmps5
    go_wp2_with fail
    refine HW.out.mono ?_
    rintro _ w2 ⟨rfl, hb⟩
    have HB := hide hb
    clear hb
    go_wp2
    go_ret
    exact ⟨rfl, HB.out⟩
  · have c1 : ((i.size : Int) != 32) = false := by simp; omega
    have hz := pn_size i
    rw [h32] at hz
    have HN : Hid (∀ wx, Calls Tryd.prog 21 #[.string i] wx fun e w' => e = .returned (.string (pnB i)) ∧ Below wx.heap.size wx w') := fun wx => name_any i (by omega)
    have HI1 : Hid (∀ wx, Calls Tryd.prog 22 #[.string (pnB i)] wx fun e w' => e = .returned (.tuple #[.string i, .int .i64 0]) ∧ Below wx.heap.size wx w') := fun wx => by
      have := idof_any (w := wx) (pnB i) (by omega)
      rw [idV, idO_name h32] at this
      exact this
    have HI2 : Hid (∀ wx, Calls Tryd.prog 22 #[.string (pnB i ++ ⟨#[48]⟩)] wx fun e w' => e = .returned (.tuple #[.string ⟨#[]⟩, .int .i64 5]) ∧ Below wx.heap.size wx w') := fun wx => by
      have := idof_any (w := wx) (pnB i ++ ⟨#[48]⟩) (by rw [ba_add, hz]; decide)
      rw [idV, idO_more h32] at this
      exact this
    have HI3 : Hid (∀ wx, Calls Tryd.prog 22 #[.string ((pnB i).extract 1 (pnB i).size)] wx fun e w' => e = .returned (.tuple #[.string ⟨#[]⟩, .int .i64 5]) ∧ Below wx.heap.size wx w') := fun wx => by
      have := idof_any (w := wx) ((pnB i).extract 1 (pnB i).size) (by rw [ByteArray.size_extract, hz]; decide)
      rw [idV, idO_less] at this
      exact this
    obtain ⟨k, hk⟩ : ∃ k, amg x 69 = k := ⟨_, rfl⟩
    have hk69 : k < 69 := by rw [← hk]; exact (amg_spec x 69 (by decide)).2.1
    have HA : Hid (∀ wx, Calls Tryd.prog 20 #[.int .i64 x, .int .i64 69] wx fun e w' => e = .returned (.int .i64 (k : Int)) ∧ w' = wx) := fun wx => by
      have := among_any wx x 69 (by decide) (by decide)
      rw [hk] at this
      exact this
    obtain ⟨d, hd⟩ : ∃ d : UInt8, (d.toNat : Int) = c := ⟨UInt8.ofNat c.toNat, by rw [UInt8.toNat_ofNat']; omega⟩
    have HT : Hid (∀ wx : World, ∃ cap w', (convert 9 58 (.string (pnB i))).run Tryd.prog wx = .ok (.slice (some ⟨wx.heap.size, 0, none⟩) 69 cap) w' ∧ Zq.Sh.BRow w' wx.heap.size (pnB i).data.toList ∧ Below wx.heap.size wx w') := fun wx => by
      obtain ⟨cap, w', h1, h2, h3⟩ := Zq.Sh.bytes_new wx (pnB i).data.toList
      rw [strOf_list, li_size, hz] at h1
      exact ⟨cap, w', h1, h2, h3⟩
    obtain ⟨N', hN'⟩ : ∃ N', Zq.Sh.strOf ((pnB i).data.toList.set k d) = N' := ⟨_, rfl⟩
    have HSet : Hid (∀ (wx : World) g, Zq.Sh.BRow wx g (pnB i).data.toList → (∃ u, wx.cell? ⟨g, k, none⟩ = some (.int .u8 u)) ∧ wx.frozen? ⟨g, k, none⟩ = false ∧ ∀ wy : World, Below (wx.setCell ⟨g, k, none⟩ (.int .u8 c)).heap.size (wx.setCell ⟨g, k, none⟩ (.int .u8 c)) wy → ∀ cap, (convert 58 9 (.slice (some ⟨g, 0, none⟩) 69 cap)).run Tryd.prog wy = .ok (.string N') wy) := fun wx g h => by
      have hlen : (pnB i).data.toList.length = 69 := by rw [li_size, hz]
      refine ⟨⟨_, h.cell k (by omega)⟩, h.free k (by omega), fun wy hb cap => ?_⟩
      have h2 := h.set k d (by omega)
      rw [hd] at h2
      have h3 := (h2.below hb h2.lt).str cap
      rw [List.length_set, hlen, hN'] at h3
      exact h3
    have HI4 : Hid (∀ wx, Calls Tryd.prog 22 #[.string N'] wx fun e w' => e = .returned (idV N') ∧ Below wx.heap.size wx w') := fun wx => idof_any (w := wx) N' (by rw [← hN', Zq.Sh.strOf_size, List.length_set, li_size, hz]; decide)
    have HBk := hide (fun j (h : idO N' = some j) => idO_back h)
    obtain ⟨n, hn⟩ : ∃ n, pnB i = n := ⟨_, rfl⟩
    rw [hn] at HN HI1 HI2 HI3 HT HSet hz
    have hnz : (n ++ (⟨#[48]⟩ : ByteArray)).size = 70 := by rw [ba_add, hz]; rfl
    obtain ⟨n8, hn8⟩ : ∃ n8, n ++ (⟨#[48]⟩ : ByteArray) = n8 := ⟨_, rfl⟩
    obtain ⟨n9, hn9⟩ : ∃ n9, n.extract 1 69 = n9 := ⟨_, rfl⟩
    rw [hn8] at HI2
    rw [hz, hn9] at HI3
    have HN8 := hide hn8
    have HN9 := hide hn9
    have hz1 : (1 : Int) ≤ (n.size : Int) := by omega
    clear hn8 hn9
    clear h32 hL hk hn
    go_enter Tryd.func5, Tryd.ntmps5
    go_wp2_with fail
    refine HW.out.mono ?_
    rintro _ w2 ⟨rfl, hb⟩
    have HB2 := hide hb
    clear hb
    go_wp2_with fail
    refine (HN.out _).mono ?_
    rintro _ w3 ⟨rfl, hb⟩
    have HB3 := hide (below_step HB2.out hb)
    clear hb
    go_wp2_with fail
    refine (HI1.out _).mono ?_
    rintro _ w4 ⟨rfl, hb⟩
    have HB4 := hide (below_step HB3.out hb)
    clear hb
    obtain ⟨cap, w5, hcv, hbr, hb5⟩ := HT.out w4
    obtain ⟨g, hg⟩ : ∃ g, w4.heap.size = g := ⟨_, rfl⟩
    rw [hg] at hcv hbr
    have HG := hide hg
    have HB5 := hide (below_step HB4.out hb5)
    clear hb5 hg
    go_wp2_with fail
    refine (HA.out _).mono ?_
    rintro _ wz ⟨rfl, hz2⟩
    rw [hz2]
    clear hz2 wz
    obtain ⟨⟨u, ck⟩, fk, hstr⟩ := HSet.out w5 g hbr
    have b0 : (0 : Int) ≤ (k : Int) := by omega
    have b1 : (k : Int) < 69 := by omega
    obtain ⟨w6, hw6⟩ : ∃ w6, w5.setCell ⟨g, k, none⟩ (.int .u8 c) = w6 := ⟨_, rfl⟩
    have hB6 : Below w.heap.size w w6 := by
      rw [← hw6]
      exact Zq.Sh.below_gb HB5.out (Zq.Nm.gb_set w5 g k (.int .u8 c)) (by rw [← HG.out]; exact HB4.out.size) HB5.out.size
    rw [hw6] at hstr
    have hs6 := hstr w6 (Below.refl _ _) cap
    have HST := hide (fun wy hb => hstr wy hb cap)
    have HB6 := hide hB6
    have HW6 := hide hw6
    clear hcv hbr hstr hB6 hw6
    rw [← HW6.out] at hs6
    go_wp2_with fail
    rw [HW6.out]
    refine (HI4.out _).mono ?_
    rintro _ w7 ⟨rfl, hb⟩
    have HS7 := hide (fun wy hy => HST.out wy (below_step hb hy))
    have HB7 := hide (below_step HB6.out hb)
    clear hb hs6 ck fk
    rw [idV]
    rcases hj : idO N' with _ | j
    · clear hj HBk
      simp only
      go_wp2_with fail
      rw [HN8.out]
      refine (HI2.out _).mono ?_
      rintro _ w8 ⟨rfl, hb⟩
      have HB8 := hide (below_step HB7.out hb)
      clear hb
      go_wp2_with fail
      rw [HN9.out]
      refine (HI3.out _).mono ?_
      rintro _ w9 ⟨rfl, hb⟩
      have HB9 := hide (below_step HB8.out hb)
      clear hb
      go_wp2
      go_region
      go_wp2
      go_ret
      exact ⟨rfl, HB9.out.drew⟩
    · obtain ⟨hj1, hj2⟩ := HBk.out j hj
      obtain ⟨Nj, hNj⟩ : ∃ Nj, pnB j = Nj := ⟨_, rfl⟩
      have HNj : Hid (∀ wx, Calls Tryd.prog 21 #[.string j] wx fun e w' => e = .returned (.string Nj) ∧ Below wx.heap.size wx w') := fun wx => by
        have := name_any (w := wx) j (by omega)
        rw [hNj] at this
        exact this
      have q1 : (Nj.toList == N'.toList) = true := by rw [← hNj, hj1]; simp
      clear hNj
      clear hj hj1 hj2 HBk
      simp only
      go_wp2_with fail
      rw [HN8.out]
      refine (HI2.out _).mono ?_
      rintro _ w8 ⟨rfl, hb⟩
      have HS8 := hide (fun wy hy => HS7.out wy (below_step hb hy))
      have HB8 := hide (below_step HB7.out hb)
      clear hb
      go_wp2_with fail
      rw [HN9.out]
      refine (HI3.out _).mono ?_
      rintro _ w9 ⟨rfl, hb⟩
      have HS9 := hide (fun wy hy => HS8.out wy (below_step hb hy))
      have HB9 := hide (below_step HB8.out hb)
      clear hb
      have hS1 := hide (HS9.out w9.drew (Below.refl _ _).drew)
      have HNk := hide (HNj.out w9.drew)
      go_upto_region 12 with fail
      refine wp_region_noPanic ?_
      refine wp_region_held_drew (S := fun wx => (convert 58 9 (.slice (some ⟨g, 0, none⟩) 69 cap)).run Tryd.prog wx = .ok (.string N') wx) (by kernel_rfl) hS1.out (fun hHeld => ?_)
      refine take_at (i := 0) (d := 56) (v := .int .i64 0) rfl rfl (by kernel_rfl) (by kernel_rfl) (by kernel_rfl) (fun _ _ _ h => h) (Or.inl ⟨by rfl, fun w' hSw => ?_⟩) hHeld ?_
      · go_simp
      try simp only [List.setIfInBounds_toArray, List.set_cons_zero, List.set_cons_succ]
      refine take_at (i := 1) (d := 57) (v := .bool true) rfl rfl (by kernel_rfl) (by kernel_rfl) (by kernel_rfl) (fun _ _ _ h => h) (Or.inl ⟨by rfl, fun w' hSw => ?_⟩) hHeld ?_
      · go_simp
      try simp only [List.setIfInBounds_toArray, List.set_cons_zero, List.set_cons_succ]
      refine take_at (i := 2) (d := 58) (v := .bool true) rfl rfl (by kernel_rfl) (by kernel_rfl) (by kernel_rfl) (fun _ _ _ h => h) (Or.inl ⟨by rfl, fun w' hSw => ?_⟩) hHeld ?_
      · go_simp
      try simp only [List.setIfInBounds_toArray, List.set_cons_zero, List.set_cons_succ]
      refine take_at (i := 3) (d := 59) (v := .string i) rfl rfl (by kernel_rfl) (by kernel_rfl) (by kernel_rfl) (fun _ _ _ h => h) (Or.inl ⟨by rfl, fun w' hSw => ?_⟩) hHeld ?_
      · go_simp
      try simp only [List.setIfInBounds_toArray, List.set_cons_zero, List.set_cons_succ]
      refine take_at (i := 4) (d := 60) (v := .string i) rfl rfl (by kernel_rfl) (by kernel_rfl) (by kernel_rfl) (fun _ _ _ h => h) (Or.inl ⟨by rfl, fun w' hSw => ?_⟩) hHeld ?_
      · go_simp
      try simp only [List.setIfInBounds_toArray, List.set_cons_zero, List.set_cons_succ]
      refine take_at (i := 5) (d := 61) (v := .bool true) rfl rfl (by kernel_rfl) (by kernel_rfl) (by kernel_rfl) (fun _ _ _ h => h) (Or.inl ⟨by rfl, fun w' hSw => ?_⟩) hHeld ?_
      · go_simp
      try simp only [List.setIfInBounds_toArray, List.set_cons_zero, List.set_cons_succ]
      refine take_at (i := 6) (d := 62) (v := .bool true) rfl rfl (by kernel_rfl) (by kernel_rfl) (by kernel_rfl) (fun _ _ _ h => h) (Or.inl ⟨by rfl, fun w' hSw => ?_⟩) hHeld ?_
      · go_simp
      try simp only [List.setIfInBounds_toArray, List.set_cons_zero, List.set_cons_succ]
      refine take_at (i := 7) (d := 63) (v := .bool true) rfl rfl (by kernel_rfl) (by kernel_rfl) (by kernel_rfl) (fun _ _ _ h => h) (Or.inl ⟨by rfl, fun w' hSw => ?_⟩) hHeld ?_
      · go_simp
      try simp only [List.setIfInBounds_toArray, List.set_cons_zero, List.set_cons_succ]
      refine take_at (i := 8) (d := 64) (v := .int .i64 0) rfl rfl (by kernel_rfl) (by kernel_rfl) (by kernel_rfl) (fun _ _ _ h => h) (Or.inl ⟨by rfl, fun w' hSw => ?_⟩) hHeld ?_
      · go_simp
      try simp only [List.setIfInBounds_toArray, List.set_cons_zero, List.set_cons_succ]
      refine take_at (i := 9) (d := 65) (v := .bool true) rfl rfl (by kernel_rfl) (by kernel_rfl) (by kernel_rfl) (fun _ _ _ h => h) (Or.inl ⟨by rfl, fun w' hSw => ?_⟩) hHeld ?_
      · go_simp
      try simp only [List.setIfInBounds_toArray, List.set_cons_zero, List.set_cons_succ]
      refine take_at (i := 10) (d := 66) (v := .bool true) rfl rfl (by kernel_rfl) (by kernel_rfl) (by kernel_rfl) (fun _ _ _ h => h) (Or.inl ⟨by rfl, fun w' hSw => ?_⟩) hHeld ?_
      · go_simp
      try simp only [List.setIfInBounds_toArray, List.set_cons_zero, List.set_cons_succ]
      refine take_at (i := 11) (d := 67) (v := .string j) rfl rfl (by kernel_rfl) (by kernel_rfl) (by kernel_rfl) (fun _ _ _ h => h) (Or.inl ⟨by rfl, fun w' hSw => ?_⟩) hHeld ?_
      · go_simp
      try simp only [List.setIfInBounds_toArray, List.set_cons_zero, List.set_cons_succ]
      refine take_at (i := 13) (d := 69) (v := .slice (some ⟨g, 0, none⟩) 69 cap) rfl rfl (by kernel_rfl) (by kernel_rfl) (by kernel_rfl) (fun _ _ _ h => h) (Or.inl ⟨by rfl, fun w' hSw => ?_⟩) hHeld ?_
      · go_simp
      try simp only [List.setIfInBounds_toArray, List.set_cons_zero, List.set_cons_succ]
      refine take_at (i := 14) (d := 70) (v := .string N') rfl rfl (by kernel_rfl) (by kernel_rfl) (by kernel_rfl) (fun _ _ _ h => h) (Or.inl ⟨by rfl, fun w' hSw => ?_⟩) hHeld ?_
      · go_simp
      try simp only [List.setIfInBounds_toArray, List.set_cons_zero, List.set_cons_succ]
      refine wpAnyH_ready (rs := [12]) (by kernel_rfl) (by simp) ?_
      refine AllReadyH.cons rfl (fun K hK => ?_) AllReadyH.nil
      go_simp
      refine HNk.out.mono ?_
      rintro _ wa ⟨rfl, hb⟩
      have hSa := hide (HS9.out wa (below_step (Below.refl _ _).drew hb))
      have HBa := hide (below_step HB9.out.drew hb)
      clear hb
      go_simp
      refine hK.out _ _ hSa.out (fun hHeld => ?_)
      clear hK K
      try simp only [Act.put, List.setIfInBounds_toArray, List.set_cons_zero, List.set_cons_succ]
      refine take_at (i := 15) (d := 71) (v := .bool true) rfl rfl (by kernel_rfl) (by kernel_rfl) (by kernel_rfl) (fun _ _ _ h => h) (Or.inl ⟨by rfl, fun w' hSw => ?_⟩) hHeld ?_
      · go_simp
        try rw [q1]
      try simp only [List.setIfInBounds_toArray, List.set_cons_zero, List.set_cons_succ]
      refine take_at (i := 16) (d := 72) (v := .bool true) rfl rfl (by kernel_rfl) (by kernel_rfl) (by kernel_rfl) (fun _ _ _ h => h) (Or.inl ⟨by rfl, fun w' hSw => ?_⟩) hHeld ?_
      · go_simp
      try simp only [List.setIfInBounds_toArray, List.set_cons_zero, List.set_cons_succ]
      refine take_at (i := 17) (d := 73) (v := .bool true) rfl rfl (by kernel_rfl) (by kernel_rfl) (by kernel_rfl) (fun _ _ _ h => h) (Or.inl ⟨by rfl, fun w' hSw => ?_⟩) hHeld ?_
      · go_simp
      try simp only [List.setIfInBounds_toArray, List.set_cons_zero, List.set_cons_succ]
      refine take_at (i := 18) (d := 74) (v := undef) rfl rfl (by kernel_rfl) (by kernel_rfl) (by kernel_rfl) (fun _ _ _ h => h) (Or.inr ⟨by rfl, rfl⟩) hHeld ?_
      try simp only [List.setIfInBounds_toArray, List.set_cons_zero, List.set_cons_succ]
      refine take_at (i := 19) (d := 75) (v := undef) rfl rfl (by kernel_rfl) (by kernel_rfl) (by kernel_rfl) (fun _ _ _ h => h) (Or.inr ⟨by rfl, rfl⟩) hHeld ?_
      try simp only [List.setIfInBounds_toArray, List.set_cons_zero, List.set_cons_succ]
      refine take_at (i := 20) (d := 76) (v := undef) rfl rfl (by kernel_rfl) (by kernel_rfl) (by kernel_rfl) (fun _ _ _ h => h) (Or.inr ⟨by rfl, rfl⟩) hHeld ?_
      try simp only [List.setIfInBounds_toArray, List.set_cons_zero, List.set_cons_succ]
      refine take_at (i := 21) (d := 77) (v := undef) rfl rfl (by kernel_rfl) (by kernel_rfl) (by kernel_rfl) (fun _ _ _ h => h) (Or.inr ⟨by rfl, rfl⟩) hHeld ?_
      try simp only [List.setIfInBounds_toArray, List.set_cons_zero, List.set_cons_succ]
      refine take_at (i := 22) (d := 78) (v := undef) rfl rfl (by kernel_rfl) (by kernel_rfl) (by kernel_rfl) (fun _ _ _ h => h) (Or.inr ⟨by rfl, rfl⟩) hHeld ?_
      try simp only [List.setIfInBounds_toArray, List.set_cons_zero, List.set_cons_succ]
      refine take_at (i := 23) (d := 79) (v := undef) rfl rfl (by kernel_rfl) (by kernel_rfl) (by kernel_rfl) (fun _ _ _ h => h) (Or.inr ⟨by rfl, rfl⟩) hHeld ?_
      try simp only [List.setIfInBounds_toArray, List.set_cons_zero, List.set_cons_succ]
      refine take_at (i := 24) (d := 80) (v := .bool true) rfl rfl (by kernel_rfl) (by kernel_rfl) (by kernel_rfl) (fun _ _ _ h => h) (Or.inl ⟨by rfl, fun w' hSw => ?_⟩) hHeld ?_
      · go_simp
      try simp only [List.setIfInBounds_toArray, List.set_cons_zero, List.set_cons_succ]
      refine take_at (i := 25) (d := 81) (v := .bool true) rfl rfl (by kernel_rfl) (by kernel_rfl) (by kernel_rfl) (fun _ _ _ h => h) (Or.inl ⟨by rfl, fun w' hSw => ?_⟩) hHeld ?_
      · go_simp
      try simp only [List.setIfInBounds_toArray, List.set_cons_zero, List.set_cons_succ]
      refine take_at (i := 26) (d := 82) (v := .bool true) rfl rfl (by kernel_rfl) (by kernel_rfl) (by kernel_rfl) (fun _ _ _ h => h) (Or.inl ⟨by rfl, fun w' hSw => ?_⟩) hHeld ?_
      · go_simp
      try simp only [List.setIfInBounds_toArray, List.set_cons_zero, List.set_cons_succ]
      refine take_at (i := 27) (d := 83) (v := .int .i64 5) rfl rfl (by kernel_rfl) (by kernel_rfl) (by kernel_rfl) (fun _ _ _ h => h) (Or.inl ⟨by rfl, fun w' hSw => ?_⟩) hHeld ?_
      · go_simp
      try simp only [List.setIfInBounds_toArray, List.set_cons_zero, List.set_cons_succ]
      refine take_at (i := 28) (d := 84) (v := .bool true) rfl rfl (by kernel_rfl) (by kernel_rfl) (by kernel_rfl) (fun _ _ _ h => h) (Or.inl ⟨by rfl, fun w' hSw => ?_⟩) hHeld ?_
      · go_simp
      try simp only [List.setIfInBounds_toArray, List.set_cons_zero, List.set_cons_succ]
      refine take_at (i := 29) (d := 85) (v := .bool true) rfl rfl (by kernel_rfl) (by kernel_rfl) (by kernel_rfl) (fun _ _ _ h => h) (Or.inl ⟨by rfl, fun w' hSw => ?_⟩) hHeld ?_
      · go_simp
      try simp only [List.setIfInBounds_toArray, List.set_cons_zero, List.set_cons_succ]
      refine take_at (i := 30) (d := 86) (v := .bool true) rfl rfl (by kernel_rfl) (by kernel_rfl) (by kernel_rfl) (fun _ _ _ h => h) (Or.inl ⟨by rfl, fun w' hSw => ?_⟩) hHeld ?_
      · go_simp
      try simp only [List.setIfInBounds_toArray, List.set_cons_zero, List.set_cons_succ]
      refine take_at (i := 31) (d := 87) (v := .int .i64 5) rfl rfl (by kernel_rfl) (by kernel_rfl) (by kernel_rfl) (fun _ _ _ h => h) (Or.inl ⟨by rfl, fun w' hSw => ?_⟩) hHeld ?_
      · go_simp
      try simp only [List.setIfInBounds_toArray, List.set_cons_zero, List.set_cons_succ]
      refine take_at (i := 32) (d := 88) (v := .bool true) rfl rfl (by kernel_rfl) (by kernel_rfl) (by kernel_rfl) (fun _ _ _ h => h) (Or.inl ⟨by rfl, fun w' hSw => ?_⟩) hHeld ?_
      · go_simp
      try simp only [List.setIfInBounds_toArray, List.set_cons_zero, List.set_cons_succ]
      refine take_at (i := 33) (d := 89) (v := .bool true) rfl rfl (by kernel_rfl) (by kernel_rfl) (by kernel_rfl) (fun _ _ _ h => h) (Or.inl ⟨by rfl, fun w' hSw => ?_⟩) hHeld ?_
      · go_simp
      try simp only [List.setIfInBounds_toArray, List.set_cons_zero, List.set_cons_succ]
      refine take_at (i := 34) (d := 6) (v := .bool true) rfl rfl (by kernel_rfl) (by kernel_rfl) (by kernel_rfl) (fun _ _ _ h => h) (Or.inl ⟨by rfl, fun w' hSw => ?_⟩) hHeld ?_
      · go_simp
      try simp only [List.setIfInBounds_toArray, List.set_cons_zero, List.set_cons_succ]
      refine wpAnyH_done (by kernel_rfl) ?_ _
      refine NoPanic.normal ?_
      go_wp2
      go_ret
      exact ⟨rfl, HBa.out⟩
end Go.Proofs.YtcidfkkgpehodaaDoor

namespace Go.Proofs.YtcidfkkgpehodaaDoor.Zq.Sh
open Go.ChangeShapes Go.WideShapes Go.ChangeAt Go.RowKit Go.Lib

theorem Tryd.own : ownKnob Tryd.prog.godebug = none := by kernel_rfl
theorem Tryd.laidOut : laidOutB Tryd.prog = true := by kernel_rfl
theorem Tryd.gFirst : Tryd.prog.globalNamed "garret/sha.firstWords" = some 0 := by kernel_rfl
theorem Tryd.gConst : Tryd.prog.globalNamed "garret/sha.constants" = some 1 := by kernel_rfl
theorem Tryd.tFirst : (Tryd.prog.globals[0]?).map (·.type) = some 102 := by kernel_rfl
theorem Tryd.tConst : (Tryd.prog.globals[1]?).map (·.type) = some 126 := by kernel_rfl
theorem Tryd.cells101 : Tryd.prog.cellsOf 101 = 1 := by kernel_rfl
theorem Tryd.cells126 : Tryd.prog.cellsOf 126 = 64 := by kernel_rfl
theorem Tryd.cells102 : Tryd.prog.cellsOf 102 = 8 := by kernel_rfl

abbrev laid2 : List (String × DataW Unit) := [("garret/sha.firstWords", Rows.laid_garret_sha_firstWords), ("garret/sha.constants", Rows.laid_garret_sha_constants)]

theorem door_met (os : Os) (args : Array Value) : laidMetH Tryd.prog laid2 ((World.doorLaid Tryd.prog 400 os).forCall (fun _ _ => 0) ⟨#[], args, []⟩).memory :=
  laidMetH_of_parts3 (fuel := 8) (laidMet_of_run' 8 (by kernel_rfl) (by kernel_rfl)) (by kernel_rfl) (by kernel_rfl)

theorem laid_of {W : World} (h : laidMetH Tryd.prog laid2 W) : Laid W := by
  rw [MakeChecks.laidMetH_plain _ _ _ (by kernel_rfl)] at h
  obtain ⟨ps, ⟨g0, t0, cs0, f0, p0, q0, hg0, ht0, hv0, hd0, ⟨g1, t1, cs1, f1, p1, q1, hg1, ht1, hv1, hd1, _, _⟩, _⟩, _, _⟩ := h
  obtain rfl := Option.some.inj (Tryd.gFirst.symm.trans hg0)
  obtain rfl := Option.some.inj (Tryd.gConst.symm.trans hg1)
  obtain rfl := Option.some.inj (Tryd.tFirst.symm.trans ht0)
  obtain rfl := Option.some.inj (Tryd.tConst.symm.trans ht1)
  have e0 := cells_of_tab (k := .u32) (zs := first.list) Tryd.underlying102 Tryd.underlying101 Tryd.cells101 Tryd.cells102 hd0
  have e1 := cells_of_tab (k := .u32) (zs := Ks) Tryd.underlying126 Tryd.underlying101 Tryd.cells101 Tryd.cells126 hd1
  refine ⟨?_, ?_⟩
  · simp only [World.var?, Tryd.gConst, Option.bind_some] at hv1
    split at hv1
    · rename_i cs t fr hq
      have hcs := Option.some.inj hv1
      refine ⟨t, fr, ?_⟩
      rw [hq, hcs]
      congr 2
      apply Array.ext'
      rw [e1]
      simp [word]
    · cases hv1
  · simp only [World.var?, Tryd.gFirst, Option.bind_some] at hv0
    split at hv0
    · rename_i cs t fr hq
      have hcs := Option.some.inj hv0
      refine ⟨t, fr, ?_⟩
      rw [hq, hcs]
      congr 2
      apply Array.ext'
      rw [e0]
      simp [word]
    · cases hv0

end Go.Proofs.YtcidfkkgpehodaaDoor.Zq.Sh


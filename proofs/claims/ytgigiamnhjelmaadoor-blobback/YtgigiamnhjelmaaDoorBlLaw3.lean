/-
  Blob: the statement BlobBack, walked: over what the program's calls answer.
-/
import Derived.Test.YtgigiamnhjelmaaDoorBlRow
import Derived.Test.YtgigiamnhjelmaaDoorStAmg
namespace Go.Proofs.YtgigiamnhjelmaaDoor
open Go.RowKit Go.Lib
section
variable {K : World → Prop}
set_option maxRecDepth 100000 in
set_option maxHeartbeats 6400000 in
theorem back13 (hK : Kept K) (hL : ∀ w, K w → Zq.Sh.Laid w) (hS : BSizeC K) (hD : BDecC K) (hO : BOpenC K) (hI : BIdC K) (hE : BEncC K) {w : World} (hk : K w) (tree : Bool) (t : ByteArray) (x : Int) : Calls Tryd.prog 5 #[.bool tree, .string t, .int .i64 x] w fun e w' => e = .returned (.bool true) ∧ Below w.heap.size w w' := by
  have HW : Hid (∀ wx, Below w.heap.size w wx → Calls Tryd.prog 7 #[] wx fun e w' => e = .returned (.bool true) ∧ Below wx.heap.size wx w') := fun wx h => works13 hE (hK _ _ hk h)
  by_cases ht : t.size ≤ 2000
  rotate_left
  · have c1 : (2000 : Int) < (t.size : Int) := by omega
    have HB := hide (Below.refl w.heap.size w)
    clear hK hL hI hE hD hO hS ht
    go_enter Tryd.func5, Tryd.ntmps5
    go_wp2_with fail
    refine (HW.out _ HB.out).mono ?_
    rintro _ w1 ⟨rfl, hb⟩
    have HB1 := hide hb
    clear hb
    go_wp2
    go_ret
    exact ⟨rfl, HB1.out⟩
  rcases tree with _ | _
  · have HI : Hid (∀ wx, Below w.heap.size w wx → Calls Tryd.prog 13 #[.int .i64 1, .string t] wx fun e w' => e = .returned (.tuple #[.string (idB 1 t), .int .i64 0]) ∧ Below wx.heap.size wx w') := fun wx h => hI wx 1 t (hK _ _ hk h) (by omega)
    have HE : Hid (∀ wx, Below w.heap.size w wx → Calls Tryd.prog 15 #[.int .i64 1, .string t] wx fun e w' => e = .returned (.tuple #[.string (enB 1 t), .int .i64 0]) ∧ Below wx.heap.size wx w') := fun wx h => by
      have h2 := hE wx 1 t (hK _ _ hk h) (.inl (by omega)) (by omega)
      rw [show rfC 1 t = 0 from rf_ok (m := 1) (by decide) ht] at h2
      exact h2
    obtain ⟨d1, d2, d3, d4, d5⟩ : dcB (enB 1 t) = some (1, t) ∧ lnB (enB 1 t) = t.size ∧ okH (enB 1 t) = true ∧ (enB 1 t).size ≤ t.size + 6 ∧ 0 < (enB 1 t).size := dc_en (m := 1) (by decide) ht
    have dcut : ∀ j, j < (enB 1 t).size → dcB ((enB 1 t).extract 0 j) = none ∧ lnB ((enB 1 t).extract 0 j) ≤ 20000 ∧ ((enB 1 t).extract 0 j).size ≤ 2006 := fun j hj => dc_cut (m := 1) (by decide) ht hj
    have d6 : cdB (enB 1 t) = 0 := (hd_yes d3).2.2.2.2.2.2
    have hI32 := id_size 1 t
    have hflp := fun j => id_flp (k := 1) (t := t) (j := j)
    have HSum : Hid (∀ (v : Value) (wx : World), Below w.heap.size w wx → Zq.Sh.Pieces wx v [b1 1, t] → Calls Tryd.prog 19 #[v] wx fun e w' => e = .returned (.string (idB 1 t)) ∧ Below wx.heap.size wx w') := fun v wx h hp => by
      have e : Zq.Sh.joined [b1 1, t] = (b1 1 ++ t).data.toList := by rw [ap_list, Zq.Sh.joined, List.flatMap_cons, List.flatMap_cons, List.flatMap_nil, List.append_nil]
      have h2 := Zq.Sh.sum_any (hL _ (hK _ _ hk h)) hp (by simp) (by
        rw [e, li_size, ba_add, b1_size]
        omega)
      rw [e, ← idB] at h2
      exact h2
    have hcn : ∀ w1 : World, (convert 39 9 (.slice (some ⟨w1.heap.size, 0, none⟩) 1 1)).run Tryd.prog (w1.alloc (.cells #[.int .u8 1] 5)) = .ok (.string (b1 1)) (w1.alloc (.cells #[.int .u8 1] 5)) := (conv_k (k := 1) (by decide)).1
    have HOp : ∀ i, opB (enB 1 t) i = if idB 1 t = i then some (1, t) else none := fun i => by rw [opB, d1]
    obtain ⟨I, hIe⟩ : ∃ I, idB 1 t = I := ⟨_, rfl⟩
    obtain ⟨S, hSe⟩ : ∃ S, enB 1 t = S := ⟨_, rfl⟩
    rw [hIe] at HI hI32 hflp HSum HOp
    rw [hSe] at HE d1 d2 d3 d4 d5 d6 dcut HOp
    obtain ⟨K1, hK1⟩ : ∃ K1, b1 1 = K1 := ⟨_, rfl⟩
    have hKz : K1.size = 1 := by rw [← hK1]; rfl
    rw [hK1] at HSum hcn
    have HD : Hid (∀ wx, Below w.heap.size w wx → Calls Tryd.prog 9 #[.string S] wx fun e w' => e = .returned (.tuple #[.int .i64 1, .string t, .int .i64 0]) ∧ Below wx.heap.size wx w') := fun wx h => by
      have h2 := hD wx S (hK _ _ hk h) (by omega) (by omega)
      rw [d1] at h2
      exact h2
    have HO : Hid (∀ wx, Below w.heap.size w wx → Calls Tryd.prog 11 #[.string S, .string I] wx fun e w' => e = .returned (.tuple #[.int .i64 1, .string t, .int .i64 0]) ∧ Below wx.heap.size wx w') := fun wx h => by
      have h2 := hO wx S I (hK _ _ hk h) (by omega) (by omega)
      rw [HOp, if_pos rfl] at h2
      exact h2
    have HO2 : Hid (∀ wx j, j < 32 → Below w.heap.size w wx → Calls Tryd.prog 11 #[.string S, .string (Zq.Sh.strOf (flp I.data.toList j))] wx fun e w' => e = .returned (.tuple #[.int .i64 0, .string ⟨#[]⟩, .int .i64 130]) ∧ Below wx.heap.size wx w') := fun wx j hj h => by
      have h2 := hO wx S (Zq.Sh.strOf (flp I.data.toList j)) (hK _ _ hk h) (by omega) (by omega)
      rw [HOp, if_neg (hflp j hj)] at h2
      exact h2
    have HZ : Hid (∀ wx, Below w.heap.size w wx → Calls Tryd.prog 8 #[.string S] wx fun e w' => e = .returned (.tuple #[.int .i64 (t.size : Int), .int .i64 0]) ∧ Below wx.heap.size wx w') := fun wx h => by
      have h2 := hS wx S (hK _ _ hk h) (by omega)
      rw [d2, d6] at h2
      exact h2
    have HC : Hid (∀ wx j, j < S.size → Below w.heap.size w wx → Calls Tryd.prog 9 #[.string (S.extract 0 j)] wx fun e w' => e = .returned (.tuple #[.int .i64 0, .string ⟨#[]⟩, .int .i64 130]) ∧ Below wx.heap.size wx w') := fun wx j hj h => by
      obtain ⟨q1, q2, q3⟩ := dcut j hj
      have h2 := hD wx (S.extract 0 j) (hK _ _ hk h) (by omega) q2
      rw [q1] at h2
      exact h2
    have c1 : ¬ (2000 : Int) < (t.size : Int) := by omega
    have c2 : ¬ (t.size : Int) + 6 < (S.size : Int) := by omega
    have hsa : IntKind.i64.wrap ((t.size : Int) + 6) = (t.size : Int) + 6 := by rw [IntKind.wrap_i64]; omega
    have HX := hide (And.intro d4 (And.intro d5 (And.intro hI32 ht)))
    have HB := hide (Below.refl w.heap.size w)
    have hzt : t.size ≤ 2000 := ht
    have hzs : S.size ≤ 2006 := by omega
    clear hK hI hE hD hO hS hL hk d1 d2 d3 d4 d5 d6 dcut hflp HOp hIe hSe hK1 ht
    go_enter Tryd.func5, Tryd.ntmps5
    go_wp2_with fail
    refine (HW.out _ HB.out).mono ?_
    rintro _ w1 ⟨rfl, hb⟩
    have HB1 := hide hb
    clear hb
    go_wp2_with fail
    refine (HI.out _ HB1.out).mono ?_
    rintro _ w2 ⟨rfl, hb⟩
    have HB2 := hide (below_step HB1.out hb)
    clear hb
    go_wp2_with fail
    refine (HE.out _ HB2.out).mono ?_
    rintro _ w3 ⟨rfl, hb⟩
    have HB3 := hide (below_step HB2.out hb)
    clear hb
    go_wp2_with fail
    refine (HSum.out _ _ (below_al (below_al HB3.out _) _) (pieces_two _ _ _ _ (alloc_sz _ _))).mono ?_
    rintro _ w4 ⟨rfl, hb⟩
    have HB4 := hide (below_step (below_al (below_al HB3.out _) _) hb)
    clear hb
    go_wp2_with fail
    refine (HD.out _ HB4.out).mono ?_
    rintro _ w5 ⟨rfl, hb⟩
    have HB5 := hide (below_step HB4.out hb)
    clear hb
    go_wp2_with fail
    refine (HO.out _ HB5.out).mono ?_
    rintro _ w6 ⟨rfl, hb⟩
    have HB6 := hide (below_step HB5.out hb)
    clear hb
    go_wp2_with fail
    refine (HZ.out _ HB6.out).mono ?_
    rintro _ w7 ⟨rfl, hb⟩
    have HB7 := hide (below_step HB6.out hb)
    clear hb hI32
    have hconv := run_bytes_of_string (P := Tryd.prog) w7 9 39 5 I Tryd.underlying9 Tryd.underlying39 Tryd.underlying5
    have hge := grownCap_ge w7 I.size 0 5
    generalize grownCap w7 I.size 0 5 = cap at *
    obtain ⟨V, hV⟩ : ∃ V, V = w7.drew.alloc (.cells (bytesRow I cap) 5 ((bytesRow I cap).size, (bytesRow I cap).size + 1)) := ⟨_, rfl⟩
    rw [← hV] at hconv
    have hBR : Bl.BR V w7.heap.size I.data.toList := by rw [hV]; exact Bl.BR.turned I cap _ hge rfl (heap_alloc_new w7.drew _)
    have HBV := hide (below_step HB7.out (show Below w7.heap.size w7 V by rw [hV]; exact (Below.refl _ _).drew.alloc (Nat.le_refl _) _))
    have HHB := hide hBR
    obtain ⟨g, hg⟩ : ∃ g, g = w7.heap.size := ⟨_, rfl⟩
    have hgw : w.heap.size ≤ g := by rw [hg]; exact HB7.out.size
    rw [← hg] at hconv HHB
    have HG := hide (And.intro hg hgw)
    clear hV hge hBR hg hgw
    go_wp2_with fail
    refine (among_any _ x I.size (by have := HX.out.2.2.1; omega) (by have := HX.out.2.2.1; omega)).mono ?_
    rintro e w8 ⟨rfl, hw8⟩
    rw [hw8]
    clear hw8 w8
    have hp := (amg_spec x I.size (by have := HX.out.2.2.1; omega)).2.1
    generalize amg x I.size = p at *
    obtain ⟨c, hc⟩ : ∃ c, c = I.data.toList.getD p 0 := ⟨_, rfl⟩
    have hpl : p < I.data.toList.length := by rw [li_size]; exact hp
    have hcg : I.data.toList[p]? = some c := by rw [hc, List.getD_eq_getElem?_getD, List.getElem?_eq_getElem hpl, Option.getD_some]
    have k1 := HHB.out.cell p c hcg
    have k2 := HHB.out.free p hpl
    obtain ⟨d, hd⟩ : ∃ d : UInt8, c ^^^ 1 = d := ⟨_, rfl⟩
    have k3 := xor_one c
    rw [hd] at k3
    have k4 : (p : Int) < (I.size : Int) := by omega
    have k5 : (convert 39 9 (.slice (some ⟨g, 0, none⟩) I.size cap)).run Tryd.prog (V.setCell ⟨g, p, none⟩ (.int .u8 (d.toNat : Int))) = .ok (.string (Zq.Sh.strOf (flp I.data.toList p))) (V.setCell ⟨g, p, none⟩ (.int .u8 (d.toNat : Int))) := by
      rw [flp, ← hc, hd]
      exact (HHB.out.set p hpl d).str_all cap I.size (by rw [List.length_set, li_size])
    have HC2 : Hid (Below w.heap.size w (V.setCell ⟨g, p, none⟩ (.int .u8 (d.toNat : Int)))) := HBV.out.setCell HG.out.2 _
    have HP := hide (And.intro hp hc)
    obtain ⟨J, hJ⟩ : ∃ J, Zq.Sh.strOf (flp I.data.toList p) = J := ⟨_, rfl⟩
    have HO3 := hide (fun wx => HO2.out wx p (by have := HX.out.2.2.1; have := HP.out.1; omega))
    rw [hJ] at HO3 k5
    clear hp hc hpl hcg hJ hconv hd
    go_wp2_with fail
    refine (HO3.out _ HC2.out).mono ?_
    rintro _ w9 ⟨rfl, hb⟩
    have HB9 := hide (below_step HC2.out hb)
    clear hb
    go_wp2_with fail
    refine (among_any _ x S.size HX.out.2.1 (by have := HX.out.1; have := HX.out.2.2.2; omega)).mono ?_
    rintro e w10 ⟨rfl, hw10⟩
    rw [hw10]
    clear hw10 w10
    have hq := (amg_spec x S.size HX.out.2.1).2.1
    generalize amg x S.size = q at *
    have hsl := sl_to (s := S) (a := q) (by omega)
    have HQ := hide hq
    have hq2 : (q : Int) ≤ (S.size : Int) := by omega
    clear hq
    go_wp2_with fail
    refine (HC.out _ q HQ.out HB9.out).mono ?_
    rintro _ w11 ⟨rfl, hb⟩
    have HB11 := hide (below_step HB9.out hb)
    clear hb
    go_wp2
    go_ret
    exact ⟨rfl, HB11.out⟩
  · have HI : Hid (∀ wx, Below w.heap.size w wx → Calls Tryd.prog 13 #[.int .i64 2, .string t] wx fun e w' => e = .returned (.tuple #[.string (idB 2 t), .int .i64 0]) ∧ Below wx.heap.size wx w') := fun wx h => hI wx 2 t (hK _ _ hk h) (by omega)
    have HE : Hid (∀ wx, Below w.heap.size w wx → Calls Tryd.prog 15 #[.int .i64 2, .string t] wx fun e w' => e = .returned (.tuple #[.string (enB 2 t), .int .i64 0]) ∧ Below wx.heap.size wx w') := fun wx h => by
      have h2 := hE wx 2 t (hK _ _ hk h) (.inl (by omega)) (by omega)
      rw [show rfC 2 t = 0 from rf_ok (m := 2) (by decide) ht] at h2
      exact h2
    obtain ⟨d1, d2, d3, d4, d5⟩ : dcB (enB 2 t) = some (2, t) ∧ lnB (enB 2 t) = t.size ∧ okH (enB 2 t) = true ∧ (enB 2 t).size ≤ t.size + 6 ∧ 0 < (enB 2 t).size := dc_en (m := 2) (by decide) ht
    have dcut : ∀ j, j < (enB 2 t).size → dcB ((enB 2 t).extract 0 j) = none ∧ lnB ((enB 2 t).extract 0 j) ≤ 20000 ∧ ((enB 2 t).extract 0 j).size ≤ 2006 := fun j hj => dc_cut (m := 2) (by decide) ht hj
    have d6 : cdB (enB 2 t) = 0 := (hd_yes d3).2.2.2.2.2.2
    have hI32 := id_size 2 t
    have hflp := fun j => id_flp (k := 2) (t := t) (j := j)
    have HSum : Hid (∀ (v : Value) (wx : World), Below w.heap.size w wx → Zq.Sh.Pieces wx v [b1 2, t] → Calls Tryd.prog 19 #[v] wx fun e w' => e = .returned (.string (idB 2 t)) ∧ Below wx.heap.size wx w') := fun v wx h hp => by
      have e : Zq.Sh.joined [b1 2, t] = (b1 2 ++ t).data.toList := by rw [ap_list, Zq.Sh.joined, List.flatMap_cons, List.flatMap_cons, List.flatMap_nil, List.append_nil]
      have h2 := Zq.Sh.sum_any (hL _ (hK _ _ hk h)) hp (by simp) (by
        rw [e, li_size, ba_add, b1_size]
        omega)
      rw [e, ← idB] at h2
      exact h2
    have hcn : ∀ w1 : World, (convert 39 9 (.slice (some ⟨w1.heap.size, 0, none⟩) 1 1)).run Tryd.prog (w1.alloc (.cells #[.int .u8 2] 5)) = .ok (.string (b1 2)) (w1.alloc (.cells #[.int .u8 2] 5)) := (conv_k (k := 2) (by decide)).1
    have HOp : ∀ i, opB (enB 2 t) i = if idB 2 t = i then some (2, t) else none := fun i => by rw [opB, d1]
    obtain ⟨I, hIe⟩ : ∃ I, idB 2 t = I := ⟨_, rfl⟩
    obtain ⟨S, hSe⟩ : ∃ S, enB 2 t = S := ⟨_, rfl⟩
    rw [hIe] at HI hI32 hflp HSum HOp
    rw [hSe] at HE d1 d2 d3 d4 d5 d6 dcut HOp
    obtain ⟨K1, hK1⟩ : ∃ K1, b1 2 = K1 := ⟨_, rfl⟩
    have hKz : K1.size = 1 := by rw [← hK1]; rfl
    rw [hK1] at HSum hcn
    have HD : Hid (∀ wx, Below w.heap.size w wx → Calls Tryd.prog 9 #[.string S] wx fun e w' => e = .returned (.tuple #[.int .i64 2, .string t, .int .i64 0]) ∧ Below wx.heap.size wx w') := fun wx h => by
      have h2 := hD wx S (hK _ _ hk h) (by omega) (by omega)
      rw [d1] at h2
      exact h2
    have HO : Hid (∀ wx, Below w.heap.size w wx → Calls Tryd.prog 11 #[.string S, .string I] wx fun e w' => e = .returned (.tuple #[.int .i64 2, .string t, .int .i64 0]) ∧ Below wx.heap.size wx w') := fun wx h => by
      have h2 := hO wx S I (hK _ _ hk h) (by omega) (by omega)
      rw [HOp, if_pos rfl] at h2
      exact h2
    have HO2 : Hid (∀ wx j, j < 32 → Below w.heap.size w wx → Calls Tryd.prog 11 #[.string S, .string (Zq.Sh.strOf (flp I.data.toList j))] wx fun e w' => e = .returned (.tuple #[.int .i64 0, .string ⟨#[]⟩, .int .i64 130]) ∧ Below wx.heap.size wx w') := fun wx j hj h => by
      have h2 := hO wx S (Zq.Sh.strOf (flp I.data.toList j)) (hK _ _ hk h) (by omega) (by omega)
      rw [HOp, if_neg (hflp j hj)] at h2
      exact h2
    have HZ : Hid (∀ wx, Below w.heap.size w wx → Calls Tryd.prog 8 #[.string S] wx fun e w' => e = .returned (.tuple #[.int .i64 (t.size : Int), .int .i64 0]) ∧ Below wx.heap.size wx w') := fun wx h => by
      have h2 := hS wx S (hK _ _ hk h) (by omega)
      rw [d2, d6] at h2
      exact h2
    have HC : Hid (∀ wx j, j < S.size → Below w.heap.size w wx → Calls Tryd.prog 9 #[.string (S.extract 0 j)] wx fun e w' => e = .returned (.tuple #[.int .i64 0, .string ⟨#[]⟩, .int .i64 130]) ∧ Below wx.heap.size wx w') := fun wx j hj h => by
      obtain ⟨q1, q2, q3⟩ := dcut j hj
      have h2 := hD wx (S.extract 0 j) (hK _ _ hk h) (by omega) q2
      rw [q1] at h2
      exact h2
    have c1 : ¬ (2000 : Int) < (t.size : Int) := by omega
    have c2 : ¬ (t.size : Int) + 6 < (S.size : Int) := by omega
    have hsa : IntKind.i64.wrap ((t.size : Int) + 6) = (t.size : Int) + 6 := by rw [IntKind.wrap_i64]; omega
    have HX := hide (And.intro d4 (And.intro d5 (And.intro hI32 ht)))
    have HB := hide (Below.refl w.heap.size w)
    have hzt : t.size ≤ 2000 := ht
    have hzs : S.size ≤ 2006 := by omega
    clear hK hI hE hD hO hS hL hk d1 d2 d3 d4 d5 d6 dcut hflp HOp hIe hSe hK1 ht
    go_enter Tryd.func5, Tryd.ntmps5
    go_wp2_with fail
    refine (HW.out _ HB.out).mono ?_
    rintro _ w1 ⟨rfl, hb⟩
    have HB1 := hide hb
    clear hb
    go_wp2_with fail
    refine (HI.out _ HB1.out).mono ?_
    rintro _ w2 ⟨rfl, hb⟩
    have HB2 := hide (below_step HB1.out hb)
    clear hb
    go_wp2_with fail
    refine (HE.out _ HB2.out).mono ?_
    rintro _ w3 ⟨rfl, hb⟩
    have HB3 := hide (below_step HB2.out hb)
    clear hb
    go_wp2_with fail
    refine (HSum.out _ _ (below_al (below_al HB3.out _) _) (pieces_two _ _ _ _ (alloc_sz _ _))).mono ?_
    rintro _ w4 ⟨rfl, hb⟩
    have HB4 := hide (below_step (below_al (below_al HB3.out _) _) hb)
    clear hb
    go_wp2_with fail
    refine (HD.out _ HB4.out).mono ?_
    rintro _ w5 ⟨rfl, hb⟩
    have HB5 := hide (below_step HB4.out hb)
    clear hb
    go_wp2_with fail
    refine (HO.out _ HB5.out).mono ?_
    rintro _ w6 ⟨rfl, hb⟩
    have HB6 := hide (below_step HB5.out hb)
    clear hb
    go_wp2_with fail
    refine (HZ.out _ HB6.out).mono ?_
    rintro _ w7 ⟨rfl, hb⟩
    have HB7 := hide (below_step HB6.out hb)
    clear hb hI32
    have hconv := run_bytes_of_string (P := Tryd.prog) w7 9 39 5 I Tryd.underlying9 Tryd.underlying39 Tryd.underlying5
    have hge := grownCap_ge w7 I.size 0 5
    generalize grownCap w7 I.size 0 5 = cap at *
    obtain ⟨V, hV⟩ : ∃ V, V = w7.drew.alloc (.cells (bytesRow I cap) 5 ((bytesRow I cap).size, (bytesRow I cap).size + 1)) := ⟨_, rfl⟩
    rw [← hV] at hconv
    have hBR : Bl.BR V w7.heap.size I.data.toList := by rw [hV]; exact Bl.BR.turned I cap _ hge rfl (heap_alloc_new w7.drew _)
    have HBV := hide (below_step HB7.out (show Below w7.heap.size w7 V by rw [hV]; exact (Below.refl _ _).drew.alloc (Nat.le_refl _) _))
    have HHB := hide hBR
    obtain ⟨g, hg⟩ : ∃ g, g = w7.heap.size := ⟨_, rfl⟩
    have hgw : w.heap.size ≤ g := by rw [hg]; exact HB7.out.size
    rw [← hg] at hconv HHB
    have HG := hide (And.intro hg hgw)
    clear hV hge hBR hg hgw
    go_wp2_with fail
    refine (among_any _ x I.size (by have := HX.out.2.2.1; omega) (by have := HX.out.2.2.1; omega)).mono ?_
    rintro e w8 ⟨rfl, hw8⟩
    rw [hw8]
    clear hw8 w8
    have hp := (amg_spec x I.size (by have := HX.out.2.2.1; omega)).2.1
    generalize amg x I.size = p at *
    obtain ⟨c, hc⟩ : ∃ c, c = I.data.toList.getD p 0 := ⟨_, rfl⟩
    have hpl : p < I.data.toList.length := by rw [li_size]; exact hp
    have hcg : I.data.toList[p]? = some c := by rw [hc, List.getD_eq_getElem?_getD, List.getElem?_eq_getElem hpl, Option.getD_some]
    have k1 := HHB.out.cell p c hcg
    have k2 := HHB.out.free p hpl
    obtain ⟨d, hd⟩ : ∃ d : UInt8, c ^^^ 1 = d := ⟨_, rfl⟩
    have k3 := xor_one c
    rw [hd] at k3
    have k4 : (p : Int) < (I.size : Int) := by omega
    have k5 : (convert 39 9 (.slice (some ⟨g, 0, none⟩) I.size cap)).run Tryd.prog (V.setCell ⟨g, p, none⟩ (.int .u8 (d.toNat : Int))) = .ok (.string (Zq.Sh.strOf (flp I.data.toList p))) (V.setCell ⟨g, p, none⟩ (.int .u8 (d.toNat : Int))) := by
      rw [flp, ← hc, hd]
      exact (HHB.out.set p hpl d).str_all cap I.size (by rw [List.length_set, li_size])
    have HC2 : Hid (Below w.heap.size w (V.setCell ⟨g, p, none⟩ (.int .u8 (d.toNat : Int)))) := HBV.out.setCell HG.out.2 _
    have HP := hide (And.intro hp hc)
    obtain ⟨J, hJ⟩ : ∃ J, Zq.Sh.strOf (flp I.data.toList p) = J := ⟨_, rfl⟩
    have HO3 := hide (fun wx => HO2.out wx p (by have := HX.out.2.2.1; have := HP.out.1; omega))
    rw [hJ] at HO3 k5
    clear hp hc hpl hcg hJ hconv hd
    go_wp2_with fail
    refine (HO3.out _ HC2.out).mono ?_
    rintro _ w9 ⟨rfl, hb⟩
    have HB9 := hide (below_step HC2.out hb)
    clear hb
    go_wp2_with fail
    refine (among_any _ x S.size HX.out.2.1 (by have := HX.out.1; have := HX.out.2.2.2; omega)).mono ?_
    rintro e w10 ⟨rfl, hw10⟩
    rw [hw10]
    clear hw10 w10
    have hq := (amg_spec x S.size HX.out.2.1).2.1
    generalize amg x S.size = q at *
    have hsl := sl_to (s := S) (a := q) (by omega)
    have HQ := hide hq
    have hq2 : (q : Int) ≤ (S.size : Int) := by omega
    clear hq
    go_wp2_with fail
    refine (HC.out _ q HQ.out HB9.out).mono ?_
    rintro _ w11 ⟨rfl, hb⟩
    have HB11 := hide (below_step HB9.out hb)
    clear hb
    go_wp2
    go_ret
    exact ⟨rfl, HB11.out⟩
end
end Go.Proofs.YtgigiamnhjelmaaDoor

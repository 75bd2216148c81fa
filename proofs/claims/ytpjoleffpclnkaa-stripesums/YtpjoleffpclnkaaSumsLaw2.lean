/-
  The walk of StripeSums.
-/
import Derived.Test.YtpjoleffpclnkaaSumsLaw
import Derived.BigQuiet
namespace Go.Proofs.Ytpjoleffpclnkaa
open Go.RowKit Go.Lib

theorem min3_eq (x y n : Nat) (hn : n = min (min x y) 300) : (if (300 : Int) < (if (y : Int) < (x : Int) then (y : Int) else (x : Int)) then (300 : Int) else (if (y : Int) < (x : Int) then (y : Int) else (x : Int))) = (n : Int) := by
  split <;> split <;> omega
theorem min3_eq' (x y n : Nat) (hn : n = min (min x y) 300) : (if (300 : Int) < (if y < x then (y : Int) else (x : Int)) then (300 : Int) else (if y < x then (y : Int) else (x : Int))) = (n : Int) := by
  split <;> split <;> omega
theorem SB.keepF {w w' : World} {q n : Nat} {X : Nat → ByteArray} (h : SB w q n X) {b sb f1 f2 g k m : Nat} (hP : PP w b sb f1 f2 g k m) (hg : w.grownBy w' (some f2)) : SB w' q n X := h.gof hP.fl hg

/-- Three lists of texts, and nothing that lay before is turned. -/
structure S3 (w0 : World) (qx qy qz n : Nat) (X Y Z : Nat → ByteArray) (w : World) : Prop where
  x : SB w qx n X
  y : SB w qy n Y
  z : SB w qz n Z
  b : Below w0.heap.size w0 w
theorem S3.below {w0 w w' : World} {qx qy qz n : Nat} {X Y Z : Nat → ByteArray} (h : S3 w0 qx qy qz n X Y Z w) (hb : Below w.heap.size w w') : S3 w0 qx qy qz n X Y Z w' :=
  ⟨h.x.below hb (Nat.le_refl _), h.y.below hb (Nat.le_refl _), h.z.below hb (Nat.le_refl _), below_step h.b hb⟩
theorem below_iter (w : World) (n : Nat) (s : ByteArray) (p : Nat) : Below w.heap.size w ((w.drewN n).iter s p) := below_alloc (below_drew (Below.refl _ _) n) _
theorem iter_drewN (w : World) (n m : Nat) (s : ByteArray) (p : Nat) : ((w.drewN n).iter s p).drewN m = (w.drewN (n + m)).iter s p := by
  simp only [World.iter, World.drewN, World.alloc]
  congr 1
  try omega
theorem iter_pos (w : World) (n : Nat) (s : ByteArray) (p : Nat) : ((w.drewN n).iter s p).iterPos w.heap.size = p := World.iterPos_iter (w.drewN n) s p
theorem width_pos (s : ByteArray) (pos : Nat) (h : pos < s.size) : 1 ≤ (Utf8.decode s pos).2 := by
  by_cases ha : (s[pos]'h).toNat < 128
  · rw [decode_ascii s pos h ha]
    exact Nat.le_refl _
  · exact (decode_high s pos h (by omega)).2

set_option maxRecDepth 100000 in
set_option maxHeartbeats 3200000 in
theorem sums_walk (x y : Int) (a b : ByteArray) (w : World) :
    Calls Try.prog 5 #[.agg #[.int .i64 x, .int .i64 y], .string a, .string b] w fun e w' => e = .returned (.bool true) ∧ Below w.heap.size w w' := by
  obtain ⟨k, hk⟩ : ∃ k, k = 1 + amg x 8 := ⟨_, rfl⟩
  obtain ⟨m, hm⟩ : ∃ m, m = amg y 7 := ⟨_, rfl⟩
  have k1 : 1 ≤ k := by omega
  have km : k + m ≤ 255 := by
    have := (amg_spec x 8 (by decide)).2.1
    have := (amg_spec y 7 (by decide)).2.1
    omega
  have HKM := hide (And.intro k1 km)
  have HKE := hide (And.intro hk hm)
  obtain ⟨L, hL⟩ : ∃ L, L = min (min a.size b.size) 300 := ⟨_, rfl⟩
  have hmin := min3_eq a.size b.size L hL
  have hmin2 := min3_eq' a.size b.size L hL
  have hL1 : L ≤ a.size := by omega
  have hL2 : L ≤ b.size := by omega
  have hL3 : L ≤ 300 := by omega
  obtain ⟨W, hW⟩ : ∃ W, W = w.alloc (.cells #[.int .i64 x, .int .i64 y] 22) := ⟨_, rfl⟩
  have hA2 : A2 W w.heap.size x y := by rw [hW]; exact A2.new w x y
  have HB : Hid (Below w.heap.size w W) := by rw [hW]; exact below_alloc (Below.refl _ _) _
  have a0 := hA2.cell0
  have a1 := hA2.cell1
  have HW := hide hW
  clear hW hA2 hL hk hm
  go_enter Try.func5, Try.ntmps5
  go_upto_region 1 with fail
  rw [← HW.out]
  go_wp2_with fail
  refine (lshape_any x y).mono ?_
  rintro e w1 ⟨rfl, hb1⟩
  rw [← HKE.out.1, ← HKE.out.2]
  have HB1 := hide (below_step HB.out hb1)
  clear hb1 HB a0 a1 HW k1 km
  go_wp2_with fail
  refine (snew_ok HKM.out.1 HKM.out.2).mono ?_
  rintro e w2 ⟨pb, sb, f1, f2, g, rfl, hP, hf2, hb2⟩
  have HB2 := hide (below_step HB1.out hb2)
  have HP2 := hide hP
  have HF2 := hide (Nat.le_trans HB1.out.size hf2)
  clear hP hf2 hb2 HB1
  go_wp2_with fail
  refine (works_any _).mono ?_
  rintro e w3 ⟨rfl, hb3⟩
  have HB3 := hide (below_step HB2.out hb3)
  have HP3 := hide (HP2.out.below hb3)
  clear hb3 HB2 HP2
  obtain ⟨A, hA⟩ : ∃ A, A = a.extract 0 L := ⟨_, rfl⟩
  obtain ⟨B, hB⟩ : ∃ B, B = b.extract 0 L := ⟨_, rfl⟩
  have hAs : A.size = L := by rw [hA, ByteArray.size_extract]; omega
  have hBs : B.size = L := by rw [hB, ByteArray.size_extract]; omega
  obtain ⟨R, hR⟩ : ∃ R, R = Fd.xorL A.data.toList B.data.toList := ⟨_, rfl⟩
  have hRl : R.length = L := by rw [hR, Fd.xorL_length _ _ (by rw [size_list, size_list, hAs, hBs]), size_list, hAs]
  have hget : ∀ j, j < L → ∃ u v z, a.data.toList[j]? = some u ∧ b.data.toList[j]? = some v ∧ R[j]? = some z ∧ z = u ^^^ v := by
    intro j hj
    have ea : A.data.toList = a.data.toList.take L := by rw [hA, ext_list]; simp
    have eb : B.data.toList = b.data.toList.take L := by rw [hB, ext_list]; simp
    obtain ⟨u, hu⟩ := Fd.get_some a.data.toList j (by rw [size_list]; omega)
    obtain ⟨v, hv⟩ := Fd.get_some b.data.toList j (by rw [size_list]; omega)
    refine ⟨u, v, u ^^^ v, hu, hv, ?_, rfl⟩
    rw [hR]
    exact Fd.xorL_get2 (by rw [ea, List.getElem?_take, if_pos hj, hu]) (by rw [eb, List.getElem?_take, if_pos hj, hv])
  have HSUM : Hid (Sum3 A B (Fd.strOf R)) := ⟨by rw [hAs, hBs], by rw [Fd.strOf_toList, hR]⟩
  have HAB := hide (And.intro hA hB)
  have HGET := hide hget
  have HSZ := hide (And.intro hAs hBs)
  have hmk : ∀ w : World, _ := fun w => run_make_row' (P := Try.prog) 49 5 (.int .u8 0) 1 Try.underlying49 Fd.Try.info5 rfl .i64 .i64 L (by omega) (by omega) w
  clear hA hB hR hget hAs hBs
  have HBR := hide (made_zeros w3 L)
  have HBW := hide (below_alloc (Below.refl w3.heap.size w3) (.cells (madeCells #[.int .u8 0] L) 5))
  go_wp2
  go_loopw [50] (fun i wr => ∃ j : Nat, j ≤ L ∧ i = .int .i64 j ∧ Fd.BR wr w3.heap.size (Fd.st R (List.replicate L 0) j) ∧ Below w3.heap.size w3 wr) (fun i _ => L - (RowKit.intOf i).toNat)
  case atStart => exact ⟨0, Nat.zero_le _, rfl, by rw [Fd.st_zero]; exact HBR.out, HBW.out⟩
  case round =>
    clear HBR HBW hmin hmin2 hmk
    obtain ⟨j, hj, rfl, hBj, hb⟩ := hrel
    have hRl' : R.length = (List.replicate L (0 : UInt8)).length := by rw [hRl, List.length_replicate]
    by_cases hlt : j < L
    · have hjl : j < (List.replicate L (0 : UInt8)).length := by rw [List.length_replicate]; exact hlt
      have cj := hBj.cell j _ (Fd.st_get R _ hRl' j hjl)
      have hf := hBj.free j (by rw [Fd.st_length _ _ hRl']; exact hjl)
      obtain ⟨u, v, z, g1, g2, g3, g4⟩ := HGET.out j hlt
      have hix := Fd.ix2 g1
      have hiy := Fd.ix2 g2
      have S := Fd.BR.step hRl' hjl hBj hb (Nat.le_refl _)
      have e3 : R[j]'(by omega) = z := by
        rw [List.getElem?_eq_getElem (by omega)] at g3
        exact Option.some.inj g3
      rw [e3] at S
      have hxr := Fd.u8_xor u v
      rw [← g4] at hxr
      have HS := hide S
      have HG4 := hide g4
      clear S hBj hb e3 g1 g2 g3 g4
      generalize (List.replicate L (0 : UInt8))[j] = z0 at *
      have b0 : (0 : Int) ≤ (j : Int) := by omega
      have b1 : (j : Int) < (L : Int) := by omega
      go_wp2
      go_region
      go_wp2
      go_roundw
      case rel => exact ⟨j + 1, by omega, by go_num, HS.out.1, HS.out.2.drew⟩
      case measure => simp [RowKit.intOf]; omega
    obtain rfl : j = L := by omega
    have e0 := Fd.st_all R _ hRl'
    rw [List.length_replicate] at e0
    rw [e0] at hBj
    have hstr := hBj.str_all j j (by omega)
    have HP4 := hide (HP3.out.below hb)
    have HB4 := hide (below_step HB3.out hb)
    have HBj := hide hBj
    clear hb hBj HP3 HB3 hlt hj e0 hRl' hstr
    go_wp2_with fail
    rw [← HAB.out.1]
    refine (split_ok HP4.out HKM.out.1 HKM.out.2 (s := A) (by have := HSZ.out; omega)).mono ?_
    rintro e w5 ⟨qx, rfl, hSx, hqx, hP5, hg5⟩
    have HX5 := hide hSx
    have HP5 := hide hP5
    have HB5 := hide (below_gb HB4.out hg5 HF2.out HB4.out.size)
    have HJ5 := hide (HBj.out.field HP4.out.fl hg5)
    clear hSx hqx hP5 hg5 HBj HP4 HB4
    go_wp2_with fail
    rw [← HAB.out.2]
    refine (split_ok HP5.out HKM.out.1 HKM.out.2 (s := B) (by have := HSZ.out; omega)).mono ?_
    rintro e w6 ⟨qy, rfl, hSy, hqy, hP6, hg6⟩
    have HX6 := hide (HX5.out.gof HP5.out.fl hg6)
    have HY6 := hide hSy
    have HP6 := hide hP6
    have HB6 := hide (below_gb HB5.out hg6 HF2.out HB5.out.size)
    have hJ6 := HJ5.out.field HP5.out.fl hg6
    have hstr := hJ6.str_all j j (by omega)
    clear hSy hqy hP6 hg6 HX5 HP5 HB5 HJ5 hJ6
    go_wp2_with fail
    refine (split_ok HP6.out HKM.out.1 HKM.out.2 (s := Fd.strOf R) (by rw [Fd.strOf_size]; omega)).mono ?_
    rintro e w7 ⟨qz, rfl, hSz, hqz, hP7, hg7⟩
    have H7 : Hid (S3 w qx qy qz (k + m) (shd k A) (shd k B) (shd k (Fd.strOf R)) w7) := ⟨HX6.out.gof HP6.out.fl hg7, HY6.out.gof HP6.out.fl hg7, hSz, below_gb HB6.out hg7 HF2.out HB6.out.size⟩
    have HSM : Hid (∀ i, Sum3 (shd k A i) (shd k B i) (shd k (Fd.strOf R) i)) := fun i => shd_sum HSUM.out HKM.out.1 i
    obtain ⟨n, hn⟩ : ∃ n, n = k + m := ⟨_, rfl⟩
    have hnb : n ≤ 255 := by have := HKM.out; omega
    rw [← hn] at H7 ⊢
    clear hSz hqz hP7 hg7 HX6 HY6 HP6 HB6 hstr hn HSUM HAB HGET HSZ HKM
    go_wp2
    go_loopw [113] (fun z wr => ∃ i : Nat, i ≤ n ∧ z = .int .i64 i ∧ S3 w qx qy qz n (shd k A) (shd k B) (shd k (Fd.strOf R)) wr) (fun z _ => n - (RowKit.intOf z).toNat)
    case atStart => exact ⟨0, Nat.zero_le _, rfl, H7.out⟩
    case round =>
      obtain ⟨i, hi, rfl, h3⟩ := hrel
      clear H7
      by_cases hlt : i < n
      · have cx := h3.x.cell i hlt
        have cy := h3.y.cell i hlt
        have cz := h3.z.cell i hlt
        obtain ⟨hs1, hs2⟩ := HSM.out i
        have hs3 := (HSM.out i).size
        obtain ⟨X, hX⟩ : ∃ X, X = shd k A i := ⟨_, rfl⟩
        obtain ⟨Y, hY⟩ : ∃ Y, Y = shd k B i := ⟨_, rfl⟩
        obtain ⟨Z, hZ⟩ : ∃ Z, Z = shd k (Fd.strOf R) i := ⟨_, rfl⟩
        rw [← hX] at cx hs1 hs2 hs3
        rw [← hY] at cy hs1 hs2
        rw [← hZ] at cz hs2 hs3
        have HXYZ := hide (And.intro hX (And.intro hY hZ))
        have HH := hide h3
        have HE := hide (And.intro hs1 (And.intro hs2 hs3))
        have g1 : ((X.size : Int) != (Z.size : Int)) = false := by simp [hs3]
        have g2 : ((Y.size : Int) != (Z.size : Int)) = false := by simp [hs3, hs1]
        have b0 : (0 : Int) ≤ (i : Int) := by omega
        have b1 : (i : Int) < (n : Int) := by omega
        clear h3 hs1 hs2 hs3 hX hY hZ
        go_wp2
        go_quiet (fail)
        go_wp2
        clear cx cy cz g1 g2
        go_loopw [20] (fun _ wx => ∃ pos nn : Nat, wx = (wr.drewN nn).iter Z pos) (fun _ wx => Z.size - wx.iterPos wr.heap.size)
        case atStart => exact ⟨0, _, rfl⟩
        case round =>
          obtain ⟨pos, nn, hwx⟩ := hrel
          subst hwx
          by_cases hp : pos < Z.size
          · have hnx : ∀ ty, (Instr.next (.pointer (some ⟨wr.heap.size, 0, none⟩)) true ty).run Try.prog ((wr.drewN nn).iter Z pos) = _ := fun ty => run_next_any (wr.drewN nn) Z pos ty hp
            have hwd := width_pos Z pos hp
            generalize (Utf8.decode Z pos).2 = wd at *
            generalize (Utf8.decode Z pos).1 = rn at *
            have h3 := HH.out.below (below_iter wr nn Z (pos + wd))
            have cx := h3.x.cell i hlt
            have cy := h3.y.cell i hlt
            have cz := h3.z.cell i hlt
            rw [← HXYZ.out.1] at cx
            rw [← HXYZ.out.2.1] at cy
            rw [← HXYZ.out.2.2] at cz
            obtain ⟨u, hu⟩ := Fd.get_some X.data.toList pos (by rw [size_list]; have := HE.out; omega)
            obtain ⟨v, hv⟩ := Fd.get_some Y.data.toList pos (by rw [size_list]; have := HE.out; omega)
            have hz : Z.data.toList[pos]? = some (u ^^^ v) := by rw [HE.out.2.1]; exact Fd.xorL_get2 hu hv
            have hix := Fd.ix2 hu
            have hiy := Fd.ix2 hv
            have hiz := Fd.ix2 hz
            have hxr := Fd.u8_xor u v
            obtain ⟨z, hze⟩ : ∃ z, z = u ^^^ v := ⟨_, rfl⟩
            rw [← hze] at hiz hxr
            have p0 : (0 : Int) ≤ (pos : Int) := by omega
            clear h3 hu hv hz hze
            go_wp2
            go_quiet (fail)
            go_wp2
            go_roundw
            case rel => exact ⟨pos + wd, _, iter_drewN _ _ _ _ _⟩
            case measure =>
              rw [iter_drewN, iter_pos, iter_pos]
              omega
          · have hnx : ∀ ty, (Instr.next (.pointer (some ⟨wr.heap.size, 0, none⟩)) true ty).run Try.prog ((wr.drewN nn).iter Z pos) = _ := fun ty => run_next_end (wr.drewN nn) Z pos ty hp
            have H8 := hide (HH.out.below (below_iter wr nn Z pos))
            go_wp2
            exact ⟨⟨i + 1, by omega, by go_num, H8.out⟩, by simp [RowKit.intOf]; omega⟩
      · obtain rfl : i = n := by omega
        have HB9 := hide h3.b
        clear h3
        go_wp2
        go_ret
        exact ⟨rfl, HB9.out⟩
end Go.Proofs.Ytpjoleffpclnkaa

/-
  The contract of the document's own Mix.
-/
import Derived.Test.YtfjkdmiaagalhaaGreatFMix2
namespace Go.Proofs.YtfjkdmiaagalhaaGreat.Fd
open Go.RowKit Go.Lib

theorem below_drewN {w wr : World} {B : Nat} (h : Below B w wr) (m : Nat) : Below B w (wr.drewN m) := below_drew h m

set_option maxRecDepth 100000 in
set_option maxHeartbeats 1600000 in
theorem refMix_any {w : World} {n m : Nat} {vl vc : Value} {X : Nat → ByteArray} {Z : Nat → Int} (hl : TX w vl n X) (hc : NX w vc m Z) (hn : n ≤ 1000) (hm : m ≤ 140737488355328) (hx : ∀ i, i < n → (X i).size ≤ 100000) :
    Calls Tryz.prog 23 #[vl, vc] w fun e w' => e = .returned (.tuple #[.string (mixS n m X Z), .int .i64 (faultC n m X Z)]) ∧ Below w.heap.size w w' := by
  by_cases hnm : n = m
  · subst hnm
    obtain ⟨al, cl, rfl, HL⟩ := hl
    obtain ⟨ac, cc, rfl, HC⟩ := hc
    have KL : Hid _ := HL
    have KC : Hid _ := HC
    have HX : Hid _ := hx
    clear HL HC hx hm
    obtain ⟨S, E, R4, R1, R0⟩ : ∃ (S : ByteArray) (E : Int), Hid (∀ j, j < n → (X j).size ≠ (X 0).size → S = ⟨#[]⟩ ∧ E = 4) ∧ Hid (∀ j, szB X n = true → j < n → isEl (Z j) = false → S = ⟨#[]⟩ ∧ E = 1) ∧ Hid ((mixS n n X Z = S ∧ faultC n n X Z = E) ∧ (szB X n = true → elB Z n = true → E = 0 ∧ (n = 0 → S = ⟨#[]⟩) ∧ (0 < n → S = strOf (mixAt (X 0).size X (fun i => (Z i).toNat) n)))) := by
      refine ⟨mixS n n X Z, faultC n n X Z, fun j hj h => ?_, fun j h hj h1 => ?_, ⟨rfl, rfl⟩, fun h h1 => ?_⟩
      · have e : faultC n n X Z = 4 := by rw [faultC, if_pos rfl, szB_false X n j hj h]; rfl
        exact ⟨by rw [mixS, e]; rfl, e⟩
      · have e : faultC n n X Z = 1 := by rw [faultC, if_pos rfl, if_pos h, elB_false Z n j hj h1]; rfl
        exact ⟨by rw [mixS, e]; rfl, e⟩
      · have e : faultC n n X Z = 0 := by rw [faultC, if_pos rfl, if_pos h, if_pos h1]
        exact ⟨e, fun h0 => by rw [mixS, if_pos e, if_pos h0], fun h0 => by rw [mixS, if_pos e, if_neg (by omega)]⟩
    rw [R0.out.1.1, R0.out.1.2]
    go_enter Tryz.func23, Tryz.ntmps23
    go_wp2
    go_loopw [6] (fun i wr => ∃ j q : Nat, j ≤ n ∧ i = .int .i64 j ∧ szB X j = true ∧ wr = w.drewN q) (fun i _ => n - (intOf i).toNat)
    case atStart => exact ⟨0, 0, Nat.zero_le _, rfl, rfl, rfl⟩
    case round =>
      obtain ⟨j, q, hj, rfl, hsz, hwr⟩ := hrel
      have HSZ : Hid _ := hsz
      clear hsz
      by_cases hlt : j < n
      · obtain ⟨bl, off, rfl, hbl, hcl⟩ := KL.out.resolve_left (by omega)
        have c1 : wr.cell? ⟨bl, off + j, none⟩ = some (.string (X j)) := by rw [hwr]; exact hcl j hlt
        have c0 : wr.cell? ⟨bl, off, none⟩ = some (.string (X 0)) := by rw [hwr]; exact hcl 0 (by omega)
        have HW : Hid _ := hwr
        clear hcl hwr
        have b0 : (0 : Int) ≤ (j : Int) := by omega
        have b1 : (j : Int) < (n : Int) := by omega
        have b2 : (0 : Int) < (n : Int) := by omega
        by_cases hs : (X j).size = (X 0).size
        · have hs' : (((X j).size : Int) != ((X 0).size : Int)) = false := by simp; omega
          have HS2 : Hid (szB X (j + 1) = true) := by
            show _ = _
            rw [szB_succ, HSZ.out, show ((X j).size == (X 0).size) = true by simpa using hs]
            rfl
          clear hs
          generalize X j = xj at *
          go_wp2
          go_quiet (fail)
          go_wp2
          exact ⟨⟨j + 1, q + nq, by omega, by go_num, HS2.out, by rw [HW.out, World.drewN_drewN]⟩, by simp [intOf]; omega⟩
        · have hs' : (((X j).size : Int) != ((X 0).size : Int)) = true := by simp; omega
          obtain ⟨rfl, rfl⟩ := R4.out j hlt hs
          clear hs R4 R1 R0
          generalize X j = xj at *
          go_wp2
          go_quiet (fail)
          go_wp2
          go_ret2
          exact ⟨rfl, by rw [HW.out]; exact below_drewN (below_drewN (Below.refl _ _) _) _⟩
      · obtain rfl : j = n := by omega
        have HW : Hid _ := hwr
        clear hwr
        go_wp2
        go_loop [7] (fun i => ∃ k : Nat, k ≤ j ∧ i = .int .i64 k ∧ elB Z k = true) (fun i => j - (intOf i).toNat)
        case atStart => exact ⟨0, Nat.zero_le _, rfl, rfl⟩
        case round =>
          obtain ⟨k, hk, rfl, hel⟩ := hrel
          have HEL : Hid _ := hel
          clear hel
          by_cases hkl : k < j
          · obtain ⟨bc, oc, rfl, hbc, hcc⟩ := KC.out.resolve_left (by omega)
            have cz : wr.cell? ⟨bc, oc + k, none⟩ = some (.int .i64 (Z k)) := by rw [HW.out]; exact hcc k hkl
            clear hcc
            have b0 : (0 : Int) ≤ (k : Int) := by omega
            have b1 : (k : Int) < (j : Int) := by omega
            cases he : isEl (Z k)
            · obtain ⟨rfl, rfl⟩ := R1.out k HSZ.out hkl he
              clear R4 R1 R0
              generalize Z k = zk at *
              go_wp2_with fail
              refine (is_any _ _).mono ?_
              rintro e w1 ⟨rfl, rfl⟩
              go_wp2
              go_ret2
              exact ⟨rfl, by rw [HW.out]; exact below_drewN (Below.refl _ _) _⟩
            · have HE2 : Hid (elB Z (k + 1) = true) := by show _ = _; rw [elB_succ, he, HEL.out]; rfl
              generalize Z k = zk at *
              go_wp2_with fail
              refine (is_any _ _).mono ?_
              rintro e w1 ⟨rfl, rfl⟩
              go_wp2
              exact ⟨⟨k + 1, by omega, by go_num, HE2.out⟩, by simp [intOf]; omega⟩
          · obtain rfl : k = j := by omega
            obtain ⟨rfl, r1, r2⟩ := R0.out.2 HSZ.out HEL.out
            by_cases h0 : k = 0
            · obtain rfl := r1 h0
              have h0' : ((k : Int) == 0) = true := by simp; omega
              clear R4 R1 R0 r1 r2
              go_wp2
              go_ret2
              exact ⟨rfl, by rw [HW.out]; exact below_drewN (Below.refl _ _) _⟩
            · have hS := r2 (by omega)
              have h0' : ((k : Int) == 0) = false := by simp; omega
              obtain ⟨bl, off, rfl, hbl, hcl⟩ := KL.out.resolve_left (by omega)
              obtain ⟨bc, oc, rfl, hbc, hcc⟩ := KC.out.resolve_left (by omega)
              have HCL : Hid _ := hcl
              have HCC : Hid _ := hcc
              have c0 : wr.cell? ⟨bl, off, none⟩ = some (.string (X 0)) := by rw [HW.out]; exact hcl 0 (by omega)
              have HSS : Hid _ := hS
              have hx0 := HX.out 0 (by omega)
              have HSN : Hid (∀ i, i < k → (X i).size = (X 0).size) := fun i hi => szB_at X k i HSZ.out hi
              obtain ⟨N, hN⟩ : ∃ N, N = (X 0).size := ⟨_, rfl⟩
              have HZN : Hid (∀ i, i < k → ∃ c : Nat, Z i = c ∧ c < 256) := fun i hi => isEl_out _ (elB_at Z k i HEL.out hi)
              rw [← hN] at HSN HSS hx0
              have b2 : (0 : Int) < (k : Int) := by omega
              obtain ⟨i0, hi, hz0, hz1, hz2⟩ := info_parts Tryz.info5
              have hsz0 : (X 0).size = N := hN.symm
              have HWB : Hid (Below w.heap.size w wr) := by show Below _ _ _; rw [HW.out]; exact below_drewN (Below.refl _ _) _
              clear R4 R1 R0 r1 r2 hS hcl hcc hN HSZ HEL HW
              generalize X 0 = x0 at *
              go_wp2_with (first | (at_make; refine wpList_make_full _ rfl _ _ 105 rfl wr.heap.size 5 i0 (.int .u8 0) 1 Tryz.underlying105 hi hz0 hz1 _ _ _ _ N rfl rfl (by simp) (by simp) (by rw [hz2]; omega) (by unfold maxLen; omega) (Nat.le_refl _) ?_))
              all_goals
              intro w0 hown0 hgrow0
              have hb0 : Below wr.heap.size wr w0 := (Below.refl _ _).grown hgrow0 (Nat.le_refl _) (fun k hk => by cases hk)
              have hB0 := BR.made hown0
              have hstr := hB0.str_all N N (by simp)
              have HB0 : Hid (Below w.heap.size w w0) := HWB.out.trans (hb0.mono HWB.out.size)
              have HLN : Hid (∀ q, q ≤ k → (mixAt N X (fun i => (Z i).toNat) q).length = N) := fun q hq => mixAt_length N k X _ (fun i hi => HSN.out i hi) q hq
              clear hown0 hgrow0 hb0 hB0 hz0 hz1 hz2 hi HWB c0 hsz0
              go_wp2
              go_loopw [8, 9] (fun o i w3 => ∃ q : Nat, q ≤ k ∧ o = .string (strOf (mixAt N X (fun i => (Z i).toNat) q)) ∧ i = .int .i64 q ∧ Hid (Below w.heap.size w w3)) (fun _ i _ => k - (intOf i).toNat)
              case atStart => exact ⟨0, Nat.zero_le _, rfl, rfl, HB0⟩
              case round =>
                clear HB0 hstr
                obtain ⟨q, hq, rfl, rfl, hb⟩ := hrel
                by_cases hqk : q < k
                · have c1 : wr.cell? ⟨bl, off + q, none⟩ = some (.string (X q)) := (hb.out.cell (p := ⟨bl, off + q, none⟩) hbl).trans (HCL.out q hqk)
                  have cz : wr.cell? ⟨bc, oc + q, none⟩ = some (.int .i64 (Z q)) := (hb.out.cell (p := ⟨bc, oc + q, none⟩) hbc).trans (HCC.out q hqk)
                  obtain ⟨c, hZc, hc⟩ := HZN.out q hqk
                  have HE : mixAt N X (fun i => (Z i).toNat) (q + 1) = xorL (mixAt N X (fun i => (Z i).toNat) q) (byL (X q).data.toList c) := by
                    rw [mixAt, hZc]
                    rfl
                  have hSq := HSN.out q hqk
                  have hLq := HLN.out q hq
                  have KC : ∀ w' : World, Below w.heap.size w w' → w'.cell? ⟨bl, off + q, none⟩ = some (.string (X q)) ∧ w'.cell? ⟨bc, oc + q, none⟩ = some (.int .i64 (Z q)) := fun w' h => ⟨(h.cell (p := ⟨bl, off + q, none⟩) hbl).trans (HCL.out q hqk), (h.cell (p := ⟨bc, oc + q, none⟩) hbc).trans (HCC.out q hqk)⟩
                  rw [hZc] at cz KC
                  have A39 : Hid (∀ w' : World, Hid (Below w.heap.size w w') → Calls Tryz.prog 49 #[.string (X q), .int .i64 (c : Int)] w' fun e w'' => e = .returned (.string (strOf (byL (X q).data.toList c))) ∧ Hid (Below w.heap.size w w'') ∧ w''.cell? ⟨bl, off + q, none⟩ = some (.string (X q)) ∧ w''.cell? ⟨bc, oc + q, none⟩ = some (.int .i64 (c : Int))) := by
                    intro w' h
                    refine (by_any (X q) c hc (by omega) w').mono ?_
                    rintro e w'' ⟨rfl, hb'⟩
                    have h' : Below w.heap.size w w'' := h.out.trans (hb'.mono h.out.size)
                    exact ⟨rfl, h', KC _ h'⟩
                  have A24 : Hid (∀ w' : World, Hid (Below w.heap.size w w') → Calls Tryz.prog 48 #[.string (strOf (mixAt N X (fun i => (Z i).toNat) q)), .string (strOf (byL (X q).data.toList c))] w' fun e w'' => e = .returned (.tuple #[.string (strOf (mixAt N X (fun i => (Z i).toNat) (q + 1))), .int .i64 0]) ∧ Hid (Below w.heap.size w w'') ∧ w''.cell? ⟨bl, off + q, none⟩ = some (.string (X q)) ∧ w''.cell? ⟨bc, oc + q, none⟩ = some (.int .i64 (c : Int))) := by
                    intro w' h
                    have A := refAdd_ok (strOf (mixAt N X (fun i => (Z i).toNat) q)) (strOf (byL (X q).data.toList c)) (by rw [strOf_size, strOf_size, hLq, byL_length, ← Lib.size_eq, hSq]) (by rw [strOf_size, hLq]; omega) w'
                    rw [strOf_toList, strOf_toList, ← HE] at A
                    refine A.mono ?_
                    rintro e w'' ⟨rfl, hb'⟩
                    have h' : Below w.heap.size w w'' := h.out.trans (hb'.mono h.out.size)
                    exact ⟨rfl, h', KC _ h'⟩
                  have HBd : Hid (Below w.heap.size w wr.drew) := hb.out.drew
                  clear hb HE hZc KC
                  generalize strOf (byL (X q).data.toList c) = BY at *
                  generalize strOf (mixAt N X (fun i => (Z i).toNat) q) = M1 at *
                  have b0 : (0 : Int) ≤ (q : Int) := by omega
                  have b1 : (q : Int) < (k : Int) := by omega
                  go_wp2
                  go_region_held3 (fun w' => Hid (Below w.heap.size w w') ∧ w'.cell? ⟨bl, off + q, none⟩ = some (.string (X q)) ∧ w'.cell? ⟨bc, oc + q, none⟩ = some (.int .i64 (c : Int))) (first | assumption | exact ⟨by assumption, by assumption, by assumption⟩ | exact ⟨HBd, c1, cz⟩)
                    (first
                      | (go_at_call 49; refine (A39.out _ (by assumption)).mono ?_; rintro e w1 ⟨rfl, k1, k2, k3⟩)
                      | (go_at_call 48; refine (A24.out _ (by assumption)).mono ?_; rintro e w2 ⟨rfl, m1, m2, m3⟩))
                  all_goals
                    go_wp2
                    go_roundw
                    case rel => exact ⟨q + 1, by omega, rfl, by go_num, m1⟩
                    case measure => simp [intOf]; omega
                · obtain rfl : q = k := by omega
                  rw [← HSS.out]
                  go_wp2
                  go_ret2
                  exact ⟨rfl, hb.out⟩
  · have e : faultC n m X Z = 4 := by rw [faultC, if_neg hnm]
    have e2 : mixS n m X Z = ⟨#[]⟩ := by rw [mixS, e]; rfl
    rw [e, e2]
    have h : ((n : Int) != (m : Int)) = true := by simp; omega
    obtain ⟨al, cl, rfl, _⟩ := hl
    obtain ⟨ac, cc, rfl, _⟩ := hc
    go_enter Tryz.func23, Tryz.ntmps23
    go_wp2
    go_ret2
    exact ⟨rfl, Below.refl _ _⟩
end Go.Proofs.YtfjkdmiaagalhaaGreat.Fd

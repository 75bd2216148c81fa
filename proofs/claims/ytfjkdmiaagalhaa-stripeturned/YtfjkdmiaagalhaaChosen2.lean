/-
  Parts chosen out of all shards: the walk.
-/
import Derived.Test.YtfjkdmiaagalhaaChosen
namespace Go.Proofs.Ytfjkdmiaagalhaa
open Go.RowKit Go.Lib Go.Maps

set_option maxRecDepth 100000 in
set_option maxHeartbeats 3200000 in
theorem chosen_any {w : World} {q nn kk no : Nat} {X : Nat → ByteArray} {vo : Value} {Zo : Nat → Int} (hS : SB w q nn X) (hnn : nn ≤ 255) (hkk : kk ≤ nn) (hno : no ≤ maxLen) (hO : Fd.NX w vo no Zo) :
    Calls Try.prog 18 #[.slice (some ⟨q, 0, none⟩) nn nn, .int .i64 kk, vo] w fun e w' => ∃ (v : Value) (L : List Nat), e = .returned v ∧ IP w.heap.size v kk (fun t => ((L.getD t 0 : Nat) : Int)) (fun t => X (L.getD t 0)) w' ∧ L.length = kk ∧ L.Nodup ∧ (∀ a ∈ L, a < nn) ∧ Below w.heap.size w w' := by
  obtain ⟨ao, co, rfl, hO⟩ := hO
  have hno' : no ≤ 9223372036854775807 := hno
  have HS := hide hS
  have HO := hide hO
  clear hS hO hno
  go_enter Try.func18, Try.ntmps18
  go_wp2
  go_loopw [7, 14] (fun v z wr => ∃ i : Nat, i ≤ nn ∧ z = .int .i64 i ∧ IL w.heap.size v (List.range i) wr ∧ Below w.heap.size w wr) (fun _ z _ => nn - (RowKit.intOf z).toNat)
  case atStart => exact ⟨0, Nat.zero_le _, rfl, IL.nil _ _, Below.refl _ _⟩
  case round =>
    obtain ⟨i, hi, rfl, hI, hB⟩ := hrel
    by_cases hlt : i < nn
    · obtain ⟨v', w', hr, hI', hg', _⟩ := hI.one i (by rw [List.length_range]; omega) hB.size
      have hB' := (hI.keep ((Below.refl wr.heap.size wr).alloc (Nat.le_refl _) (.cells #[.int .i64 (i : Int)] 3))).below (hB.alloc hB.size (.cells #[.int .i64 (i : Int)] 3)) hg' (by have := hB.size; simp; omega)
      rw [← List.range_succ] at hI'
      have HI := hide hI'
      have HB := hide hB'
      clear hI hB hI' hB' hg'
      have b1 : (i : Int) < (nn : Int) := by omega
      go_wp2_with (at_builtin; refine Lib.wpList_append_run _ rfl _ _ _ _ rfl _ _ rfl rfl _ _ hr ?_)
      exact ⟨⟨i + 1, by omega, by go_num, HI.out, HB.out⟩, by simp [RowKit.intOf]; omega⟩
    · obtain rfl : i = nn := by omega
      have T0 : Two5 w.heap.size i 0 X u7 (.slice none 0 0) (List.range i) [] wr := ⟨hI, IP.nil _ _ _ _, by rw [List.append_nil]; exact List.nodup_range, fun a ha => by rw [List.append_nil] at ha; exact List.mem_range.1 ha, by simp, rfl⟩
      have HT := hide T0
      have HB := hide hB
      clear hI hB T0
      go_wp2
      go_loopw [7, 9, 23] (fun vl vr z wr => ∃ (j : Nat) (L1 L2 : List Nat), j ≤ kk ∧ z = .int .i64 j ∧ Two5 w.heap.size i j X vl vr L1 L2 wr ∧ Below w.heap.size w wr) (fun _ _ z _ => kk - (RowKit.intOf z).toNat)
      case atStart => exact ⟨0, _, _, Nat.zero_le _, rfl, HT.out, HB.out⟩
      case round =>
        obtain ⟨j, L1, L2, hj, rfl, hT, hB⟩ := hrel
        clear HT HB
        by_cases hlt2 : j < kk
        · have hlen := hT.len
          have hli := hT.li
          have hl1 : 1 ≤ L1.length := by omega
          obtain ⟨gl, cl, rfl, hcl, hgB, hgl, hcell⟩ := hT.l.cells.resolve_left (fun h => by rw [h.2] at hl1; simp at hl1)
          clear hcell
          have b1 : (j : Int) < (kk : Int) := by omega
          have HLT : Hid (∀ n0, n0 < L1.length → L1.getD n0 0 < i) := fun n0 h0 => hT.lt _ (List.mem_append.2 (.inl (getD_mem h0)))
          have HCQ : Hid (∀ wx x, x < i → Below w.heap.size w wx → wx.cell? ⟨q, x, none⟩ = some (.string (X x))) := fun wx x hx hb => (HS.out.below hb (Nat.le_refl _)).cell x hx
          by_cases hjo : j < no
          · obtain ⟨bo, oo, rfl, hbo, hco⟩ := HO.out.resolve_left (by omega)
            have cj := (hB.cell (p := ⟨bo, oo + j, none⟩) hbo).trans (hco j hjo)
            have AA : Hid _ := fun w => among_any w (Zo j) L1.length (by omega) (by omega)
            obtain ⟨n1, n2, _, _⟩ := amg_spec (Zo j) L1.length (by omega)
            clear n1
            generalize amg (Zo j) L1.length = n0 at *
            obtain ⟨v5, w5, hx, h51, hB5, hx5, v6, w6, h61, h7⟩ := Two5.step (n0 := n0) hT hB hB.size (by omega) n2
            have H7 := hide h7
            have hxi := HLT.out n0 n2
            generalize L1.getD n0 0 = x at *
            obtain ⟨Y, hY⟩ : ∃ Y, Y = X x := ⟨_, rfl⟩
            have SD : Hid (wr.drew.cell? ⟨gl, n0, none⟩ = some (.int .i64 (x : Int)) ∧ wr.drew.cell? ⟨q, x, none⟩ = some (.string Y)) := ⟨hx, by rw [hY]; exact HCQ.out wr.drew x hxi hB.drew⟩
            have SA : Hid (∀ o, (wr.alloc o).drew.cell? ⟨gl, n0, none⟩ = some (.int .i64 (x : Int)) ∧ (wr.alloc o).drew.cell? ⟨q, x, none⟩ = some (.string Y)) := fun o => ⟨((below_alloc (Below.refl wr.heap.size wr) o).drew.cell (p := ⟨gl, n0, none⟩) hgl).trans hx, by rw [hY]; exact HCQ.out _ x hxi (below_alloc hB o).drew⟩
            have SE : Hid (w5.cell? ⟨gl, n0, none⟩ = some (.int .i64 (x : Int)) ∧ w5.cell? ⟨q, x, none⟩ = some (.string Y)) := ⟨hx5, by rw [hY]; exact HCQ.out w5 x hxi hB5⟩
            rw [← hY] at h51
            clear h7 hT hB hx hB5 hx5 hY hco
            have b2 : (j : Int) < (no : Int) := by omega
            have b3 : (0 : Int) ≤ (j : Int) := by omega
            have b4 : (0 : Int) ≤ (n0 : Int) := by omega
            have b5 : (n0 : Int) < (L1.length : Int) := by omega
            have x1 : (0 : Int) ≤ (x : Int) := by omega
            have x2 : (x : Int) < (i : Int) := by omega
            go_wp2_with fail
            refine Calls.mono (AA.out _) ?_
            rintro e w9 ⟨rfl, hw9⟩
            subst w9
            have b6 : (n0 : Int) ≤ (cl : Int) := by omega
            have b7 : (n0 : Int) + 1 ≤ (L1.length : Int) := by omega
            have b8 : (0 : Int) ≤ (n0 : Int) + 1 := by omega
            have b9 : IntKind.i64.wrap ((n0 : Int) + 1) = (n0 : Int) + 1 := wraps_i64 _ (by omega) (by omega)
            have c0 : ((n0 : Int) + 1).toNat = n0 + 1 := by omega
            have c1 : ¬ cl = 0 := by omega
            by_cases hcap : cl = n0 + 1
            · have hc' : (cl = n0 + 1) = True := eq_true hcap
              obtain ⟨v7, w7, h71, kT, kB⟩ := H7.out ⟨gl, 0, none⟩ (L1.length - (n0 + 1)) (cl - (n0 + 1)) rfl (fun h => by omega)
              have KT := hide kT
              have KB' := hide kB
              clear hcap kT kB H7 AA
              go_upto_region 14 with fail
              go_region_held_law (fun wx => wx.cell? ⟨gl, n0, none⟩ = some (.int .i64 (x : Int)) ∧ wx.cell? ⟨q, x, none⟩ = some (.string Y)) (first | with_reducible exact SD.out | with_reducible exact SA.out _ | with_reducible exact SE.out)
                (first
                  | (refine step_append_run rfl _ _ 43 43 rfl _ _ rfl rfl _ _ h51 ?_))
              clear h51 SD SA SE
              go_upto_region 15 with fail
              go_region_held_law (fun _ => True) (first | trivial)
                (first
                  | (refine step_append_run rfl _ _ 41 41 rfl _ _ rfl rfl _ _ h61 ?_)
                  | (refine step_append_run rfl _ _ 41 41 rfl _ _ rfl rfl _ _ h71 ?_))
              all_goals
                clear h61 h71
                go_wp2
                exact ⟨⟨j + 1, _, _, by omega, by go_num, KT.out, KB'.out⟩, by simp [RowKit.intOf]; omega⟩
            · obtain ⟨v7, w7, h71, kT, kB⟩ := H7.out ⟨gl, n0 + 1, none⟩ (L1.length - (n0 + 1)) (cl - (n0 + 1)) rfl (fun _ => rfl)
              have KT := hide kT
              have KB' := hide kB
              clear kT kB H7 AA
              go_upto_region 14 with fail
              go_region_held_law (fun wx => wx.cell? ⟨gl, n0, none⟩ = some (.int .i64 (x : Int)) ∧ wx.cell? ⟨q, x, none⟩ = some (.string Y)) (first | with_reducible exact SD.out | with_reducible exact SA.out _ | with_reducible exact SE.out)
                (first
                  | (refine step_append_run rfl _ _ 43 43 rfl _ _ rfl rfl _ _ h51 ?_))
              clear h51 SD SA SE
              go_upto_region 15 with fail
              go_region_held_law (fun _ => True) (first | trivial)
                (first
                  | (refine step_append_run rfl _ _ 41 41 rfl _ _ rfl rfl _ _ h61 ?_)
                  | (refine step_append_run rfl _ _ 41 41 rfl _ _ rfl rfl _ _ h71 ?_))
              all_goals
                clear h61 h71
                go_wp2
                exact ⟨⟨j + 1, _, _, by omega, by go_num, KT.out, KB'.out⟩, by simp [RowKit.intOf]; omega⟩
          · obtain ⟨v5, w5, hx, h51, hB5, hx5, v6, w6, h61, h7⟩ := Two5.step (n0 := 0) hT hB hB.size (by omega) hl1
            rw [Nat.zero_add] at h7
            have H7 := hide h7
            have hxi := HLT.out 0 hl1
            generalize L1.getD 0 0 = x at *
            obtain ⟨Y, hY⟩ : ∃ Y, Y = X x := ⟨_, rfl⟩
            have SD : Hid (wr.drew.cell? ⟨gl, 0, none⟩ = some (.int .i64 (x : Int)) ∧ wr.drew.cell? ⟨q, x, none⟩ = some (.string Y)) := ⟨hx, by rw [hY]; exact HCQ.out wr.drew x hxi hB.drew⟩
            have SA : Hid (∀ o, (wr.alloc o).drew.cell? ⟨gl, 0, none⟩ = some (.int .i64 (x : Int)) ∧ (wr.alloc o).drew.cell? ⟨q, x, none⟩ = some (.string Y)) := fun o => ⟨((below_alloc (Below.refl wr.heap.size wr) o).drew.cell (p := ⟨gl, 0, none⟩) hgl).trans hx, by rw [hY]; exact HCQ.out _ x hxi (below_alloc hB o).drew⟩
            have SE : Hid (w5.cell? ⟨gl, 0, none⟩ = some (.int .i64 (x : Int)) ∧ w5.cell? ⟨q, x, none⟩ = some (.string Y)) := ⟨hx5, by rw [hY]; exact HCQ.out w5 x hxi hB5⟩
            rw [← hY] at h51
            clear h7 hT hB hx hB5 hx5 hY HLT
            generalize L1.length = ln at *
            have x1 : (0 : Int) ≤ (x : Int) := by omega
            have x2 : (x : Int) < (i : Int) := by omega
            have b2 : ¬ (j : Int) < (no : Int) := by omega
            have b5 : (0 : Int) < (ln : Int) := by omega
            have b6 : (0 : Int) ≤ (cl : Int) := by omega
            have b7 : (1 : Int) ≤ (ln : Int) := by omega
            have c1 : ¬ cl = 0 := by omega
            have b9 : IntKind.i64.wrap ((0 : Int) + 1) = 1 := by decide
            have b9' : IntKind.i64.wrap (1 : Int) = 1 := by decide
            have b10 : (1 : Int).toNat = 1 := rfl
            by_cases hcap : cl = 1
            · have hc' : (cl = 1) = True := eq_true hcap
              have hs2 : ∀ w : World, (Instr.slice 41 (.slice (some ⟨gl, 0, none⟩) ln cl) (some (.int .i64 1)) none none).run Try.prog w = .ok (.slice (some ⟨gl, 0, none⟩) (ln - 1) (cl - 1)) w := fun w => by
                rw [run_slice_l (P := Try.prog) (w := w) 41 _ _ _ Try.underlying41 .i64 1 (by decide) b7]
                simp [go_sem, sliced, hc']
              obtain ⟨v7, w7, h71, kT, kB⟩ := H7.out ⟨gl, 0, none⟩ (ln - 1) (cl - 1) rfl (fun h => by omega)
              have KT := hide kT
              have KB' := hide kB
              clear hcap kT kB H7
              go_upto_region 14 with fail
              go_region_held_law (fun wx => wx.cell? ⟨gl, 0, none⟩ = some (.int .i64 (x : Int)) ∧ wx.cell? ⟨q, x, none⟩ = some (.string Y)) (first | with_reducible exact SD.out | with_reducible exact SA.out _ | with_reducible exact SE.out)
                (first
                  | (refine step_append_run rfl _ _ 43 43 rfl _ _ rfl rfl _ _ h51 ?_))
              all_goals
                clear h51 SD SA SE
                go_upto_region 15 with fail
                go_region_held_law (fun _ => True) (first | trivial)
                  (first
                    | (refine step_append_run rfl _ _ 41 41 rfl _ _ rfl rfl _ _ h61 ?_)
                    | (refine step_append_run rfl _ _ 41 41 rfl _ _ rfl rfl _ _ h71 ?_))
                all_goals
                  clear h61 h71
                  go_wp2
                  exact ⟨⟨j + 1, _, _, by omega, by go_num, KT.out, KB'.out⟩, by simp [RowKit.intOf]; omega⟩
            · have hs2 : ∀ w : World, (Instr.slice 41 (.slice (some ⟨gl, 0, none⟩) ln cl) (some (.int .i64 1)) none none).run Try.prog w = .ok (.slice (some ⟨gl, 1, none⟩) (ln - 1) (cl - 1)) w := fun w => by
                rw [run_slice_l (P := Try.prog) (w := w) 41 _ _ _ Try.underlying41 .i64 1 (by decide) b7]
                simp [go_sem, sliced, hcap]
              obtain ⟨v7, w7, h71, kT, kB⟩ := H7.out ⟨gl, 1, none⟩ (ln - 1) (cl - 1) rfl (fun _ => rfl)
              have KT := hide kT
              have KB' := hide kB
              clear kT kB H7
              go_upto_region 14 with fail
              go_region_held_law (fun wx => wx.cell? ⟨gl, 0, none⟩ = some (.int .i64 (x : Int)) ∧ wx.cell? ⟨q, x, none⟩ = some (.string Y)) (first | with_reducible exact SD.out | with_reducible exact SA.out _ | with_reducible exact SE.out)
                (first
                  | (refine step_append_run rfl _ _ 43 43 rfl _ _ rfl rfl _ _ h51 ?_))
              all_goals
                clear h51 SD SA SE
                go_upto_region 15 with fail
                go_region_held_law (fun _ => True) (first | trivial)
                  (first
                    | (refine step_append_run rfl _ _ 41 41 rfl _ _ rfl rfl _ _ h61 ?_)
                    | (refine step_append_run rfl _ _ 41 41 rfl _ _ rfl rfl _ _ h71 ?_))
                all_goals
                  clear h61 h71
                  go_wp2
                  exact ⟨⟨j + 1, _, _, by omega, by go_num, KT.out, KB'.out⟩, by simp [RowKit.intOf]; omega⟩
        · obtain rfl : j = kk := by omega
          have hli := hT.li
          have HE : Hid (IP w.heap.size u9 L2.length (fun t => ((L2.getD t 0 : Nat) : Int)) (fun t => X (L2.getD t 0)) wr ∧ L2.Nodup ∧ (∀ a ∈ L2, a < i) ∧ Below w.heap.size w wr) := ⟨hT.r, (List.nodup_append.1 hT.nd).2.1, fun a ha => hT.lt a (List.mem_append.2 (.inr ha)), hB⟩
          clear hT hB
          go_wp2
          go_ret
          exact ⟨_, L2, rfl, by rw [← hli]; exact HE.out.1, hli, HE.out.2⟩
end Go.Proofs.Ytfjkdmiaagalhaa

/-
  The walk of MatrixRows: the lists.
-/
import Derived.Test.YthedeggggbdibaaSmall
import Derived.Test.YthedeggggbdibaaRowsMath
import Derived.Test.YthedeggggbdibaaPick
namespace Go.Proofs.Ythedeggggbdibaa
open Go.RowKit Go.Lib

theorem Bx.go {w w' : World} {sb f b : Nat} {r c : Int} {v : Value} (h : Bx w b r c v) (hS : SP w sb f) (hg : w.grownBy w' (some f)) : Bx w' b r c v := by
  refine h.grown hg (fun e => ?_)
  subst e
  unfold Bx at h
  rcases hS.fl with x | ⟨_, _, x, _⟩ <;> (unfold FB at x; rw [h] at x; simp at x)
theorem KB.go {w w' : World} {sb f g n : Nat} {G : Nat → K} (h : KB w g n G) (hS : SP w sb f) (hg : w.grownBy w' (some f)) : KB w' g n G := h.of_block (hg.block g h.lt (by simp; exact hS.kne h))

theorem IL.empty {B : Nat} {w : World} (hB : B ≤ w.heap.size) : IL B (.slice (some ⟨w.heap.size, 0, none⟩) 0 0) [] (w.alloc (.cells #[] 3)) :=
  ⟨rfl, .inr ⟨w.heap.size, 0, #[], rfl, hB, heap_alloc_new w _, Nat.le_refl _, Nat.zero_le _, rfl, rfl⟩⟩
theorem IL.below {B : Nat} {L : List Nat} {w w' : World} {v : Value} (h : IL B v L w) {w0 : World} (hb : Below B w0 w) (hg : w.grownBy w' v.ownBlock) (hB : B ≤ w.heap.size) : Below B w0 w' :=
  hb.grown hg hB (fun k hk => (h.lt k hk).1)
/-- One number appended. -/
theorem IL.one {B : Nat} {L : List Nat} {w : World} {v : Value} (h : IL B v L w) (x : Nat) (hl : L.length + 1 ≤ 100000) (hB : B ≤ w.heap.size) :
    ∃ v' w', (Builtin.append_ #[22, 22] 22 #[v, .slice (some ⟨w.heap.size, 0, none⟩) 1 1]).run Try.prog (w.alloc (.cells #[.int .i64 (x : Int)] 3)) = .ok v' w' ∧ IL B v' (L ++ [x]) w' ∧ (w.alloc (.cells #[.int .i64 (x : Int)] 3)).grownBy w' v.ownBlock ∧ (∀ b, v'.ownBlock = some b → v.ownBlock = some b ∨ w.heap.size ≤ b) := by
  have h' := h.keep ((Below.refl w.heap.size w).alloc (Nat.le_refl _) (.cells #[.int .i64 (x : Int)] 3))
  obtain ⟨v', w', h1, h2, h3, _, h5⟩ := h'.app (a := ⟨w.heap.size, 0, none⟩) (c := 1) [x] (cell_one_new w _ 3) (by simpa using hl) (by simp; omega)
  refine ⟨v', w', h1, h2, h3, fun b hb => ?_⟩
  rcases h5 with h5 | h5
  · exact .inl (h5 ▸ hb)
  · rw [h5] at hb
    simp at hb
    exact .inr (by omega)
/-- What the second loop keeps. -/
structure Two2 (B nn i : Nat) (vl vr : Value) (L1 L2 : List Nat) (w : World) : Prop where
  l : IL B vl L1 w
  r : IL B vr L2 w
  ap : ∀ b, vl.ownBlock = some b → vr.ownBlock ≠ some b
  nd : (L1 ++ L2).Nodup
  lt : ∀ a ∈ L1 ++ L2, a < nn
  len : L1.length + L2.length = nn
  li : L2.length = i
theorem getD_take {L : List Nat} {n j : Nat} (h : j < n) (hn : n ≤ L.length) : (ints (L.take n))[j]? = some (.int .i64 ((L.getD j 0 : Nat) : Int)) := by
  rw [ints, List.getElem?_map, List.getElem?_take, if_pos h, List.getD_eq_getElem?_getD, List.getElem?_eq_getElem (by omega)]; rfl
theorem getD_drop {L : List Nat} {n j : Nat} (h : n + j < L.length) : (ints (L.drop n))[j]? = some (.int .i64 ((L.getD (n + j) 0 : Nat) : Int)) := by
  rw [ints, List.getElem?_map, List.getElem?_drop, List.getD_eq_getElem?_getD, List.getElem?_eq_getElem h]; rfl
theorem ints_lt {L : List Nat} {j : Nat} {u : Value} (h : (ints L)[j]? = some u) : j < L.length := by
  have := (List.getElem?_eq_some_iff.1 h).1
  rwa [ints_length] at this

theorem Two2.step {B nn j gl cl : Nat} {vr : Value} {L1 L2 : List Nat} {wr w4 : World} (hT : Two2 B nn j (.slice (some ⟨gl, 0, none⟩) L1.length cl) vr L1 L2 wr) (hB : Below B w4 wr) (hBs : B ≤ wr.heap.size) (hn17 : nn ≤ 1000) {n0 : Nat} (hn : n0 < L1.length) :
    ∃ (v5 : Value) (w5 : World), wr.cell? ⟨gl, n0, none⟩ = some (.int .i64 ((L1.getD n0 0 : Nat) : Int)) ∧
      (Builtin.append_ #[22, 22] 22 #[vr, .slice (some ⟨wr.heap.size, 0, none⟩) 1 1]).run Try.prog (wr.alloc (.cells #[.int .i64 ((L1.getD n0 0 : Nat) : Int)] 3)) = .ok v5 w5 ∧
      ∃ (v6 : Value) (w6 : World), (Builtin.append_ #[22, 22] 22 #[.slice (some ⟨w5.heap.size, 0, none⟩) 0 0, .slice (some ⟨gl, 0, none⟩) n0 cl]).run Try.prog (w5.drew.alloc (.cells #[] 3)) = .ok v6 w6 ∧
        ∀ (ad : Addr) (l c : Nat), l = L1.length - (n0 + 1) → (l ≠ 0 → ad = ⟨gl, n0 + 1, none⟩) → ∃ (v7 : Value) (w7 : World), (Builtin.append_ #[22, 22] 22 #[v6, .slice (some ad) l c]).run Try.prog w6 = .ok v7 w7 ∧
          Two2 B nn (j + 1) v7 v5 (L1.take n0 ++ L1.drop (n0 + 1)) (L2 ++ [L1.getD n0 0]) w7 ∧ Below B w4 w7 := by
  have hlen := hT.len
  have hli := hT.li
  have cellOf : ∀ w, IL B (.slice (some ⟨gl, 0, none⟩) L1.length cl) L1 w → ∀ t, t < L1.length → w.cell? ⟨gl, t, none⟩ = some (.int .i64 ((L1.getD t 0 : Nat) : Int)) := by
    intro w h
    obtain ⟨g', c', e, _, _, _, hc⟩ := h.cells.resolve_left (fun x => by simp at x)
    simp only [Value.slice.injEq, Option.some.injEq, Addr.mk.injEq, and_true, true_and] at e
    obtain ⟨rfl, rfl⟩ := e
    exact hc
  have hgl := hT.l.lt gl rfl
  obtain ⟨v5, w5, h51, h52, h53, h54⟩ := hT.r.one (L1.getD n0 0) (by omega) hBs
  have al := (Below.refl wr.heap.size wr).alloc (Nat.le_refl _) (.cells #[.int .i64 ((L1.getD n0 0 : Nat) : Int)] 3)
  have l5 := (hT.l.keep al).apart h53 (fun b hb => hT.ap b hb)
  have sz5 : wr.heap.size < w5.heap.size := by have := h53.size; simp at this; omega
  have B5 : Below B w4 w5 := (hT.r.keep al).below (hB.alloc hBs _) h53 (by simp; omega)
  have bl : Below w5.heap.size w5 (w5.drew.alloc (.cells #[] 3)) := ((Below.refl w5.heap.size w5).drew).alloc (Nat.le_refl _) _
  have lW := l5.keep bl
  have rW := h52.keep bl
  have e6 : IL B (.slice (some ⟨w5.heap.size, 0, none⟩) 0 0) [] (w5.drew.alloc (.cells #[] 3)) := IL.empty (w := w5.drew) (show B ≤ w5.heap.size by omega)
  have lt_ : (L1.take n0).length = n0 := by rw [List.length_take]; omega
  have ld_ : (L1.drop (n0 + 1)).length = L1.length - (n0 + 1) := List.length_drop
  have szW : w5.heap.size < (w5.drew.alloc (.cells #[] 3)).heap.size := by simp
  obtain ⟨v6, w6, h61, h62, h63, h64, h65⟩ := e6.app (a := ⟨gl, 0, none⟩) (c := cl) (L1.take n0) (fun t u hu => by
    have ht := ints_lt hu
    rw [lt_] at ht
    rw [getD_take ht (by omega)] at hu
    cases hu
    rw [Addr.add_mid, Nat.zero_add]
    exact cellOf _ lW t (by omega)) (by rw [lt_, List.length_nil]; omega) (by omega)
  rw [lt_] at h61
  rw [List.nil_append] at h62
  have l6 := lW.apart h63 (fun b hb => by
    simp only [Value.ownBlock, Option.some.injEq] at hb
    simp only [Value.ownBlock, ne_eq, Option.some.injEq]
    omega)
  have r6 := rW.apart h63 (fun b hb => by
    have := h52.lt b hb
    simp only [Value.ownBlock, ne_eq, Option.some.injEq]
    omega)
  have sz6 := h63.size
  refine ⟨v5, w5, cellOf _ hT.l n0 hn, h51, v6, w6, h61, fun ad l c hl had => ?_⟩
  obtain ⟨v7, w7, h71, h72, h73, h74, h75⟩ := h62.app (a := ad) (c := c) (L1.drop (n0 + 1)) (fun t u hu => by
    have ht := ints_lt hu
    rw [ld_] at ht
    rw [getD_drop (by omega)] at hu
    cases hu
    rw [had (by omega), Addr.add_mid]
    exact cellOf _ l6 _ (by omega)) (by rw [lt_, ld_]; omega) (by omega)
  rw [ld_, ← hl] at h71
  have o6 : ∀ b, v6.ownBlock = some b → w5.heap.size ≤ b := by
    intro b hb
    rcases h65 with h | h
    · rw [h] at hb; simp only [Value.ownBlock, Option.some.injEq] at hb; omega
    · rw [h] at hb; simp only [Option.some.injEq] at hb; omega
  have o7 : ∀ b, v7.ownBlock = some b → w5.heap.size ≤ b := by
    intro b hb
    rcases h75 with h | h
    · exact o6 b (h ▸ hb)
    · rw [h] at hb; simp only [Option.some.injEq] at hb; omega
  have r7 := r6.apart h73 (fun b hb e => by have := h52.lt b hb; have := o6 b e; omega)
  have hget : L1.getD n0 0 = L1[n0] := by rw [List.getD_eq_getElem?_getD, List.getElem?_eq_getElem hn]; rfl
  refine ⟨v7, w7, h71, ⟨h72, r7, fun b hb e => ?_, ?_, fun a ha => ?_, ?_, ?_⟩, ?_⟩
  · have := h52.lt b e; have := o7 b hb; omega
  · rw [hget]; exact take_out hn hT.nd
  · apply hT.lt
    rw [List.mem_append] at ha ⊢
    rcases ha with ha | ha
    · left
      rcases List.mem_append.1 ha with ha | ha
      · exact List.mem_of_mem_take ha
      · exact List.mem_of_mem_drop ha
    · rcases List.mem_append.1 ha with ha | ha
      · exact .inr ha
      · left
        rw [List.mem_singleton] at ha
        rw [ha, hget]
        exact List.getElem_mem hn
  · simp only [List.length_append, lt_, ld_, List.length_cons, List.length_nil]; omega
  · simp only [List.length_append, List.length_cons, List.length_nil]; omega
  · have BW : Below B w4 (w5.drew.alloc (.cells #[] 3)) := B5.trans (bl.mono (by omega))
    exact h62.below (e6.below BW h63 (by omega)) h73 (by omega)

set_option maxRecDepth 100000 in
set_option maxHeartbeats 3200000 in
theorem rows_walk (k m : Int) {w : World} {vo : Value} {no : Nat} {Zo : Nat → Int} (ho : NX w w.heap.size vo no Zo) (hno : no ≤ 140737488355328) :
    Calls Try.prog 5 #[.int .i64 k, .int .i64 m, vo] w fun e w' => e = .returned (.bool true) ∧ Below w.heap.size w w' := by
  obtain ⟨ao, co, rfl, _⟩ := id ho
  have HO := hide ho
  obtain ⟨k1, k2, _, _⟩ := amg_spec k 9 (by decide)
  obtain ⟨m1, m2, _, _⟩ := amg_spec m 9 (by decide)
  have AK : Hid _ := fun w => among_any w k 9 (by decide) (by decide)
  have AM : Hid _ := fun w => among_any w m 9 (by decide) (by decide)
  clear k1 m1
  generalize amg k 9 = ka at *
  generalize amg m 9 = mj at *
  obtain ⟨kk, hkk⟩ : ∃ kk, kk = 1 + ka := ⟨_, rfl⟩
  have hki : (1 : Int) + (ka : Int) = (kk : Int) := by omega
  have kk1 : 1 ≤ kk := by omega
  have kk9 : kk ≤ 9 := by omega
  clear ho k2
  obtain ⟨nn, hnn⟩ : ∃ nn, nn = kk + mj := ⟨_, rfl⟩
  have hni : (kk : Int) + (mj : Int) = (nn : Int) := by omega
  have HC : Hid (∀ (w : World) (sb f : Nat), SP w sb f → _) := fun w sb f hS => cauchy_ok (w := w) (sb := sb) (f := f) (k := kk) (m := mj) hS kk1 (by omega)
  rw [← hnn] at HC
  have HNN := hide hnn
  have HKK := hide hkk
  have hNN : nn * kk ≤ 255 * 255 := Nat.mul_le_mul (by omega) (by omega)
  obtain ⟨N, hN⟩ : ∃ N, N = nn * kk := ⟨_, rfl⟩
  rw [← hN] at HC hNN
  have HN := hide hN
  have nn17 : nn ≤ 17 := by omega
  have kkn : kk ≤ nn := by omega
  clear hnn hkk hN
  go_enter Try.func5, Try.ntmps5
  go_wp2_with (first | (go_at_call 8; refine (mnew_any _).mono ?_; rintro e w1 ⟨sb, f, rfl, hS, hf, hsb, hb1⟩) | (go_at_call 9; refine (mworks_any _).mono ?_; rintro e w2 ⟨rfl, hb2⟩) | fail)
  have S2 := hS.below hb2 (Nat.le_refl _)
  have L2 := below_step hb1 hb2
  have hsz1 := hb1.size
  clear hS hb1 hb2
  have HS2 := hide S2
  have HL2 := hide L2
  clear S2 L2
  refine Calls.mono (AK.out _) ?_
  rintro e w9 ⟨rfl, hw9⟩
  subst w9
  go_wp2_with fail
  refine Calls.mono (AM.out _) ?_
  rintro e w9 ⟨rfl, hw9⟩
  subst w9
  go_wp2_with fail
  refine Calls.mono (HC.out _ _ _ HS2.out) ?_
  rintro e w3 ⟨g, rfl, hG, hgs, S3, g3⟩
  have L3 := below_gb HL2.out g3 hf HL2.out.size
  have hgw : w.heap.size ≤ g := Nat.le_trans HL2.out.size hgs
  have X4 := hide (Bx.new w3 nn kk (.slice (some ⟨g, 0, none⟩) N N))
  have S4 := hide (S3.alloc (.cells #[.int .i64 nn, .int .i64 kk, .slice (some ⟨g, 0, none⟩) N N] 24))
  have G4 := hide (hG.alloc (.cells #[.int .i64 nn, .int .i64 kk, .slice (some ⟨g, 0, none⟩) N N] 24))
  have L4 := hide (below_alloc L3 (.cells #[.int .i64 nn, .int .i64 kk, .slice (some ⟨g, 0, none⟩) N N] 24))
  clear HS2 HL2 hG hgs S3 g3 L3 HC AK AM
  obtain ⟨w4, hw4⟩ : ∃ w4, w4 = w3.alloc (.cells #[.int .i64 nn, .int .i64 kk, .slice (some ⟨g, 0, none⟩) N N] 24) := ⟨_, rfl⟩
  rw [← hw4] at X4 S4 G4 L4
  have HW4 := hide hw4
  obtain ⟨pb, hpb⟩ : ∃ pb, pb = w3.heap.size := ⟨_, rfl⟩
  rw [← hpb] at X4
  have HPB := hide hpb
  clear hw4 hpb
  go_wp2
  go_loopw [10, 50] (fun v z wr => ∃ i : Nat, i ≤ nn ∧ z = .int .i64 i ∧ IL w4.heap.size v (List.range i) wr ∧ Below w4.heap.size w4 wr) (fun _ z _ => nn - (intOf z).toNat)
  case atStart => exact ⟨0, Nat.zero_le _, rfl, IL.nil _ _, by rw [HW4.out]; exact Below.refl _ _⟩
  case round =>
    obtain ⟨i, hi, rfl, hI, hB⟩ := hrel
    by_cases hlt : i < nn
    · obtain ⟨v', w', hr, hI', hg', _⟩ := hI.one i (by rw [List.length_range]; omega) hB.size
      have hB' := (hI.keep ((Below.refl wr.heap.size wr).alloc (Nat.le_refl _) (.cells #[.int .i64 (i : Int)] 3))).below (hB.alloc hB.size (.cells #[.int .i64 (i : Int)] 3)) hg' (by have := hB.size; simp; omega)
      rw [← List.range_succ] at hI'
      have HI := hide hI'
      have HB := hide hB'
      clear hI hB hI' hB' hg'
      have b1 : (i : Int) < (nn : Int) := by omega
      go_wp2_with (at_builtin; refine Lib.wpList_append_run _ rfl _ _ _ _ rfl _ _ rfl rfl _ _ hr ?_)
      exact ⟨⟨i + 1, by omega, by go_num, HI.out, HB.out⟩, by simp [intOf]; omega⟩
    · obtain rfl : i = nn := by omega
      have T0 : Two2 w4.heap.size i 0 u10 (.slice none 0 0) (List.range i) [] wr := ⟨hI, IL.nil _ _, fun b _ h => by simp [Value.ownBlock] at h, by rw [List.append_nil]; exact List.nodup_range, fun a ha => by rw [List.append_nil] at ha; exact List.mem_range.1 ha, by simp, rfl⟩
      have HT := hide T0
      have HB := hide hB
      clear hI hB T0
      go_wp2
      go_loopw [10, 11, 59] (fun vl vr z wr => ∃ (j : Nat) (L1 L2 : List Nat), j ≤ kk ∧ z = .int .i64 j ∧ Two2 w4.heap.size i j vl vr L1 L2 wr ∧ Below w4.heap.size w4 wr) (fun _ _ z _ => kk - (intOf z).toNat)
      case atStart => exact ⟨0, _, _, Nat.zero_le _, rfl, HT.out, HB.out⟩
      case round =>
        obtain ⟨j, L1, L2, hj, rfl, hT, hB⟩ := hrel
        clear HT HB
        by_cases hlt2 : j < kk
        · have hlen := hT.len
          have hli := hT.li
          have hl1 : 1 ≤ L1.length := by omega
          obtain ⟨gl, cl, rfl, hcl, hgB, hgl, hcell⟩ := hT.l.cells.resolve_left (fun h => by rw [h.2] at hl1; simp at hl1)
          clear hcell
          have HT := hide hT
          have HB := hide hB
          have b1 : (j : Int) < (kk : Int) := by omega
          by_cases hjo : j < no
          · obtain ⟨bo, oo, co', heo, _, hbo, _⟩ := HO.out.at (by omega)
            simp only [Value.slice.injEq, true_and] at heo
            obtain ⟨rfl, rfl⟩ := heo
            have cj := ((HO.out.below (below_step L4.out (by have := hB; exact ⟨hB.os, hB.tape, hB.output, hB.size, hB.block⟩)))).cell_at j hjo
            have AA : Hid _ := fun w => among_any w (Zo j) L1.length (by omega) (by omega)
            obtain ⟨n1, n2, _, _⟩ := amg_spec (Zo j) L1.length (by omega)
            clear n1
            generalize amg (Zo j) L1.length = n0 at *
            obtain ⟨v5, w5, hx, h51, v6, w6, h61, h7⟩ := Two2.step (n0 := n0) hT hB hB.size (by omega) n2
            have H7 := hide h7
            generalize L1.getD n0 0 = x at *
            clear h7 hT hB
            have b2 : (j : Int) < (no : Int) := by omega
            have b3 : (0 : Int) ≤ (j : Int) := by omega
            have b4 : (0 : Int) ≤ (n0 : Int) := by omega
            have b5 : (n0 : Int) < (L1.length : Int) := by omega
            go_wp2_with fail
            refine Calls.mono (AA.out _) ?_
            rintro e w9 ⟨rfl, hw9⟩
            subst w9
            have b6 : (n0 : Int) ≤ (cl : Int) := by omega
            have b7 : (n0 : Int) + 1 ≤ (L1.length : Int) := by omega
            have b8 : (0 : Int) ≤ (n0 : Int) + 1 := by omega
            have b9 : IntKind.i64.wrap ((n0 : Int) + 1) = (n0 : Int) + 1 := wraps_i64 _ (by omega) (by omega)
            have c0 : ((n0 : Int) + 1).toNat = n0 + 1 := by omega
            have c1 : ¬ cl = 0 := by omega
            by_cases hcap : cl = n0 + 1
            · have hc' : (cl = n0 + 1) = True := eq_true hcap
              obtain ⟨v7, w7, h71, kT, kB⟩ := H7.out ⟨gl, 0, none⟩ (L1.length - (n0 + 1)) (cl - (n0 + 1)) rfl (fun h => by omega)
              have KT := hide kT
              have KB' := hide kB
              clear hcap kT kB H7
              go_wp2_with (at_builtin; refine Lib.wpList_append_run _ rfl _ _ _ _ rfl _ _ rfl rfl _ _ h51 ?_)
              go_region_held_law (fun _ => True) (first | trivial)
                (first
                  | (refine step_append_run rfl _ _ 22 22 rfl _ _ rfl rfl _ _ h61 ?_)
                  | (refine step_append_run rfl _ _ 22 22 rfl _ _ rfl rfl _ _ h71 ?_))
              all_goals
                clear h51 h61 h71
                go_wp2
                exact ⟨⟨j + 1, _, _, by omega, by go_num, KT.out, KB'.out⟩, by simp [intOf]; omega⟩
            · obtain ⟨v7, w7, h71, kT, kB⟩ := H7.out ⟨gl, n0 + 1, none⟩ (L1.length - (n0 + 1)) (cl - (n0 + 1)) rfl (fun _ => rfl)
              have KT := hide kT
              have KB' := hide kB
              clear kT kB H7
              go_wp2_with (at_builtin; refine Lib.wpList_append_run _ rfl _ _ _ _ rfl _ _ rfl rfl _ _ h51 ?_)
              go_region_held_law (fun _ => True) (first | trivial)
                (first
                  | (refine step_append_run rfl _ _ 22 22 rfl _ _ rfl rfl _ _ h61 ?_)
                  | (refine step_append_run rfl _ _ 22 22 rfl _ _ rfl rfl _ _ h71 ?_))
              all_goals
                clear h51 h61 h71
                go_wp2
                exact ⟨⟨j + 1, _, _, by omega, by go_num, KT.out, KB'.out⟩, by simp [intOf]; omega⟩
          · obtain ⟨v5, w5, hx, h51, v6, w6, h61, h7⟩ := Two2.step (n0 := 0) hT hB hB.size (by omega) hl1
            rw [Nat.zero_add] at h7
            have H7 := hide h7
            generalize L1.getD 0 0 = x at *
            clear h7 hT hB HT
            generalize L1.length = ln at *
            have b2 : ¬ (j : Int) < (no : Int) := by omega
            have b5 : (0 : Int) < (ln : Int) := by omega
            have b6 : (0 : Int) ≤ (cl : Int) := by omega
            have b7 : (1 : Int) ≤ (ln : Int) := by omega
            have c1 : ¬ cl = 0 := by omega
            have b9 : IntKind.i64.wrap ((0 : Int) + 1) = 1 := by decide
            have b9' : IntKind.i64.wrap (1 : Int) = 1 := by decide
            have b10 : (1 : Int).toNat = 1 := rfl
            by_cases hcap : cl = 1
            · have hc' : (cl = 1) = True := eq_true hcap
              have hs2 : ∀ w : World, (Instr.slice 22 (.slice (some ⟨gl, 0, none⟩) ln cl) (some (.int .i64 1)) none none).run Try.prog w = .ok (.slice (some ⟨gl, 0, none⟩) (ln - 1) (cl - 1)) w := fun w => by
                rw [run_slice_l (P := Try.prog) (w := w) 22 _ _ _ Try.underlying22 .i64 1 (by decide) b7]
                simp [go_sem, sliced, hc']
              obtain ⟨v7, w7, h71, kT, kB⟩ := H7.out ⟨gl, 0, none⟩ (ln - 1) (cl - 1) rfl (fun h => by omega)
              have KT := hide kT
              have KB' := hide kB
              clear hcap kT kB H7
              go_wp2_with (at_builtin; refine Lib.wpList_append_run _ rfl _ _ _ _ rfl _ _ rfl rfl _ _ h51 ?_)
              go_region_held_law (fun _ => True) (first | trivial)
                (first
                  | (refine step_append_run rfl _ _ 22 22 rfl _ _ rfl rfl _ _ h61 ?_)
                  | (refine step_append_run rfl _ _ 22 22 rfl _ _ rfl rfl _ _ h71 ?_))
              all_goals
                clear h51 h61 h71
                go_wp2
                exact ⟨⟨j + 1, _, _, by omega, by go_num, KT.out, KB'.out⟩, by simp [intOf]; omega⟩
            · have hs2 : ∀ w : World, (Instr.slice 22 (.slice (some ⟨gl, 0, none⟩) ln cl) (some (.int .i64 1)) none none).run Try.prog w = .ok (.slice (some ⟨gl, 1, none⟩) (ln - 1) (cl - 1)) w := fun w => by
                rw [run_slice_l (P := Try.prog) (w := w) 22 _ _ _ Try.underlying22 .i64 1 (by decide) b7]
                simp [go_sem, sliced, hcap]
              obtain ⟨v7, w7, h71, kT, kB⟩ := H7.out ⟨gl, 1, none⟩ (ln - 1) (cl - 1) rfl (fun _ => rfl)
              have KT := hide kT
              have KB' := hide kB
              clear kT kB H7
              go_wp2_with (at_builtin; refine Lib.wpList_append_run _ rfl _ _ _ _ rfl _ _ rfl rfl _ _ h51 ?_)
              go_region_held_law (fun _ => True) (first | trivial)
                (first
                  | (refine step_append_run rfl _ _ 22 22 rfl _ _ rfl rfl _ _ h61 ?_)
                  | (refine step_append_run rfl _ _ 22 22 rfl _ _ rfl rfl _ _ h71 ?_))
              all_goals
                clear h51 h61 h71
                go_wp2
                exact ⟨⟨j + 1, _, _, by omega, by go_num, KT.out, KB'.out⟩, by simp [intOf]; omega⟩
        · obtain rfl : j = kk := by omega
          have hli := hT.li
          obtain ⟨M, hM⟩ : ∃ M, M = j * j := ⟨_, rfl⟩
          have hMM : M ≤ 81 := by rw [hM]; exact Nat.mul_le_mul kk9 kk9
          obtain ⟨ρ, hρ⟩ : ∃ ρ : Nat → Nat, ρ = fun t => L2.getD t 0 := ⟨_, rfl⟩
          have hmem : ∀ t, t < j → L2.getD t 0 ∈ L1 ++ L2 := fun t ht => by
            rw [List.getD_eq_getElem?_getD, List.getElem?_eq_getElem (by omega)]
            exact List.mem_append.2 (.inr (List.getElem_mem _))
          have hρ1 : ∀ t, t < j → ρ t < i := fun t ht => by rw [hρ]; exact hT.lt _ (hmem t ht)
          have hnd : L2.Nodup := (List.nodup_append.1 hT.nd).2.1
          have hρ2 : ∀ s t, s < j → t < j → ρ s = ρ t → s = t := fun s t hs ht e => by rw [hρ] at e; exact nodup_inj hnd s t (by omega) (by omega) e
          obtain ⟨PA, hPA⟩ : ∃ PA, PA = flat j (fun i k => mt j (flat j (cauM j)) (ρ i) k) := ⟨_, rfl⟩
          have full : (redu j (wideM j PA) j).2 = j := picked_full j mj (by have := HNN.out; omega) ρ (fun t ht => by have := hρ1 t ht; have := HNN.out; omega) hρ2 PA (fun t _ => by rw [hPA])
          have rk : (redu j (mt j PA) j).2 = j := by rw [← wide_rank_eq]; exact full
          have ml : ∀ t, t < M → flat j (mm j (mt j (flat j (invQ j PA))) (mt j PA)) t = flat j dl t := fun t ht => flat_mul_left j PA full t (by rw [← hM]; exact ht)
          have mr : ∀ t, t < M → flat j (mm j (mt j PA) (mt j (flat j (invQ j PA)))) t = flat j dl t := fun t ht => flat_mul_right j PA full t (by rw [← hM]; exact ht)
          have S0 := S4.out.below (hB.mono (Nat.le_refl _)) (Nat.le_refl _)
          have X0 := X4.out.below hB (Nat.le_refl _)
          have G0 := G4.out.below hB (Nat.le_refl _)
          have Lq := below_step L4.out hB
          have hfB : f < w4.heap.size := S4.out.ltf
          have nr := hT.r.nx hfB
          rw [hli] at nr
          have CP : Hid _ := pick_ok (w := wr) (f := f) (r := i) (c := j) (k := j) (A := flat j (cauM j)) (ρ := ρ) (va := .slice (some ⟨g, 0, none⟩) N N) (vr := u11) (by omega) (by omega) kk1 (by omega) kk1 (by omega) (by rw [← HN.out]; exact G0.nx (Nat.le_refl _) (S0.kne G0)) (by rw [hρ]; exact nr) hρ1
          rw [← hM, ← hPA] at CP
          have HFU := hide full
          have HRK := hide rk
          have HML := hide ml
          have HMR := hide mr
          have HMM := hide hM
          have x0 := X0.cell0
          have x1 := X0.cell1
          have x2 := X0.cell2
          rw [HPB.out] at x0 x1 x2
          have HS0 := hide S0
          have HL0 := hide Lq
          clear hT hB hρ hmem hρ1 hnd hρ2 full rk ml mr hPA S0 X0 G0 Lq nr hM X4 S4 G4 L4 hli
          go_wp2_with fail
          refine Calls.mono CP.out ?_
          rintro e w5 ⟨gp, rfl, hP, hps, k5⟩
          have gf := gb_below k5 (some f)
          have S1 := (HS0.out.below k5 (Nat.le_refl _)).alloc (.cells #[.int .i64 j, .int .i64 j, .slice (some ⟨gp, 0, none⟩) M M] 24)
          have L1 := below_alloc (below_step HL0.out k5) (.cells #[.int .i64 j, .int .i64 j, .slice (some ⟨gp, 0, none⟩) M M] 24)
          have P1 := (hP).alloc (.cells #[.int .i64 j, .int .i64 j, .slice (some ⟨gp, 0, none⟩) M M] 24)
          have BP1 := Bx.new w5 j j (.slice (some ⟨gp, 0, none⟩) M M)
          have HS1 := hide S1
          have HL1 := hide L1
          have HP1 := hide P1
          have HBP1 := hide BP1
          clear gf S1 L1 P1 BP1 HS0 HL0
          clear hP hps k5 CP x0 x1 x2
          have CI : Hid _ := inverse_any (A := PA) (va := .slice (some ⟨gp, 0, none⟩) M M) HS1.out kk1 (by omega) (by rw [← HMM.out]; exact HP1.out.nx (Nat.le_refl _) (HS1.out.kne HP1.out))
          rw [← HMM.out] at CI
          have bp_0 := HBP1.out.cell0
          have bp_1 := HBP1.out.cell1
          have bp_2 := HBP1.out.cell2
          go_wp2_with fail
          refine Calls.mono CI.out ?_
          rintro e w6 ⟨hdis, hS6, gr6⟩
          obtain ⟨gq, rfl, hQ, hqs⟩ := (hdis.resolve_right (fun h => by have := HFU.out; omega)).2
          have gf := gr6
          have S2 := (hS6).alloc (.cells #[.int .i64 j, .int .i64 j, .slice (some ⟨gq, 0, none⟩) M M] 24)
          have L2 := below_alloc (below_gb HL1.out gr6 hf HL1.out.size) (.cells #[.int .i64 j, .int .i64 j, .slice (some ⟨gq, 0, none⟩) M M] 24)
          have P2 := (HP1.out.go HS1.out gf).alloc (.cells #[.int .i64 j, .int .i64 j, .slice (some ⟨gq, 0, none⟩) M M] 24)
          have BP2 := (HBP1.out.go HS1.out gf).alloc (.cells #[.int .i64 j, .int .i64 j, .slice (some ⟨gq, 0, none⟩) M M] 24)
          have Q2 := (hQ).alloc (.cells #[.int .i64 j, .int .i64 j, .slice (some ⟨gq, 0, none⟩) M M] 24)
          have BQ2 := Bx.new w6 j j (.slice (some ⟨gq, 0, none⟩) M M)
          have HS2 := hide S2
          have HL2 := hide L2
          have HP2 := hide P2
          have HBP2 := hide BP2
          have HQ2 := hide Q2
          have HBQ2 := hide BQ2
          clear gf S2 L2 P2 BP2 Q2 BQ2 HS1 HL1 HP1 HBP1
          clear hQ hqs hS6 gr6 hdis CI bp_0 bp_1 bp_2
          have CO : Hid _ := fun w => one_ok w j kk1 (by omega)
          rw [← HMM.out] at CO
          go_wp2_with fail
          refine Calls.mono (CO.out _) ?_
          rintro e w7 ⟨go, rfl, hO, hos, k7⟩
          have gf := gb_below k7 (some f)
          have S3 := (HS2.out.below k7 (Nat.le_refl _)).alloc (.cells #[.int .i64 j, .int .i64 j, .slice (some ⟨go, 0, none⟩) M M] 24)
          have L3 := below_alloc (below_step HL2.out k7) (.cells #[.int .i64 j, .int .i64 j, .slice (some ⟨go, 0, none⟩) M M] 24)
          have P3 := (HP2.out.go HS2.out gf).alloc (.cells #[.int .i64 j, .int .i64 j, .slice (some ⟨go, 0, none⟩) M M] 24)
          have BP3 := (HBP2.out.go HS2.out gf).alloc (.cells #[.int .i64 j, .int .i64 j, .slice (some ⟨go, 0, none⟩) M M] 24)
          have Q3 := (HQ2.out.go HS2.out gf).alloc (.cells #[.int .i64 j, .int .i64 j, .slice (some ⟨go, 0, none⟩) M M] 24)
          have BQ3 := (HBQ2.out.go HS2.out gf).alloc (.cells #[.int .i64 j, .int .i64 j, .slice (some ⟨go, 0, none⟩) M M] 24)
          have O3 := (hO).alloc (.cells #[.int .i64 j, .int .i64 j, .slice (some ⟨go, 0, none⟩) M M] 24)
          have BO3 := Bx.new w7 j j (.slice (some ⟨go, 0, none⟩) M M)
          have HS3 := hide S3
          have HL3 := hide L3
          have HP3 := hide P3
          have HBP3 := hide BP3
          have HQ3 := hide Q3
          have HBQ3 := hide BQ3
          have HO3 := hide O3
          have HBO3 := hide BO3
          clear gf S3 L3 P3 BP3 Q3 BQ3 O3 BO3 HS2 HL2 HP2 HBP2 HQ2 HBQ2
          clear hO hos k7 CO
          have CM : Hid _ := mul_mat (A := PA) (B := flat j (invQ j PA)) (va := .slice (some ⟨gp, 0, none⟩) M M) (vb := .slice (some ⟨gq, 0, none⟩) M M) HS3.out kk1 (by omega) kk1 (by omega) kk1 (by omega) (by rw [← HMM.out]; exact HP3.out.nx (Nat.le_refl _) (HS3.out.kne HP3.out)) (by rw [← HMM.out]; exact HQ3.out.nx (Nat.le_refl _) (HS3.out.kne HQ3.out))
          rw [← HMM.out] at CM
          have bp_0 := HBP3.out.cell0
          have bp_1 := HBP3.out.cell1
          have bp_2 := HBP3.out.cell2
          have bq_0 := HBQ3.out.cell0
          have bq_1 := HBQ3.out.cell1
          have bq_2 := HBQ3.out.cell2
          go_wp2_with fail
          refine Calls.mono CM.out ?_
          rintro e w8 ⟨gx, rfl, hX, hxs, hS8, gr8⟩
          have gf := gr8
          have S4 := (hS8).alloc (.cells #[.int .i64 j, .int .i64 j, .slice (some ⟨gx, 0, none⟩) M M] 24)
          have L4 := below_alloc (below_gb HL3.out gr8 hf HL3.out.size) (.cells #[.int .i64 j, .int .i64 j, .slice (some ⟨gx, 0, none⟩) M M] 24)
          have P4 := (HP3.out.go HS3.out gf).alloc (.cells #[.int .i64 j, .int .i64 j, .slice (some ⟨gx, 0, none⟩) M M] 24)
          have BP4 := (HBP3.out.go HS3.out gf).alloc (.cells #[.int .i64 j, .int .i64 j, .slice (some ⟨gx, 0, none⟩) M M] 24)
          have Q4 := (HQ3.out.go HS3.out gf).alloc (.cells #[.int .i64 j, .int .i64 j, .slice (some ⟨gx, 0, none⟩) M M] 24)
          have BQ4 := (HBQ3.out.go HS3.out gf).alloc (.cells #[.int .i64 j, .int .i64 j, .slice (some ⟨gx, 0, none⟩) M M] 24)
          have O4 := (HO3.out.go HS3.out gf).alloc (.cells #[.int .i64 j, .int .i64 j, .slice (some ⟨gx, 0, none⟩) M M] 24)
          have BO4 := (HBO3.out.go HS3.out gf).alloc (.cells #[.int .i64 j, .int .i64 j, .slice (some ⟨gx, 0, none⟩) M M] 24)
          have X4 := (hX.congr (fun t ht => HMR.out t ht)).alloc (.cells #[.int .i64 j, .int .i64 j, .slice (some ⟨gx, 0, none⟩) M M] 24)
          have BX4 := Bx.new w8 j j (.slice (some ⟨gx, 0, none⟩) M M)
          have HS4 := hide S4
          have HL4 := hide L4
          have HP4 := hide P4
          have HBP4 := hide BP4
          have HQ4 := hide Q4
          have HBQ4 := hide BQ4
          have HO4 := hide O4
          have HBO4 := hide BO4
          have HX4 := hide X4
          have HBX4 := hide BX4
          clear gf S4 L4 P4 BP4 Q4 BQ4 O4 BO4 X4 BX4 HS3 HL3 HP3 HBP3 HQ3 HBQ3 HO3 HBO3
          clear hX hxs hS8 gr8 CM bp_0 bp_1 bp_2 bq_0 bq_1 bq_2
          have CM : Hid _ := mul_mat (A := flat j (invQ j PA)) (B := PA) (va := .slice (some ⟨gq, 0, none⟩) M M) (vb := .slice (some ⟨gp, 0, none⟩) M M) HS4.out kk1 (by omega) kk1 (by omega) kk1 (by omega) (by rw [← HMM.out]; exact HQ4.out.nx (Nat.le_refl _) (HS4.out.kne HQ4.out)) (by rw [← HMM.out]; exact HP4.out.nx (Nat.le_refl _) (HS4.out.kne HP4.out))
          rw [← HMM.out] at CM
          have bp_0 := HBP4.out.cell0
          have bp_1 := HBP4.out.cell1
          have bp_2 := HBP4.out.cell2
          have bq_0 := HBQ4.out.cell0
          have bq_1 := HBQ4.out.cell1
          have bq_2 := HBQ4.out.cell2
          go_wp2_with fail
          refine Calls.mono CM.out ?_
          rintro e w9 ⟨gy, rfl, hX, hxs, hS8, gr8⟩
          have gf := gr8
          have S5 := (hS8).alloc (.cells #[.int .i64 j, .int .i64 j, .slice (some ⟨gy, 0, none⟩) M M] 24)
          have L5 := below_alloc (below_gb HL4.out gr8 hf HL4.out.size) (.cells #[.int .i64 j, .int .i64 j, .slice (some ⟨gy, 0, none⟩) M M] 24)
          have P5 := (HP4.out.go HS4.out gf).alloc (.cells #[.int .i64 j, .int .i64 j, .slice (some ⟨gy, 0, none⟩) M M] 24)
          have BP5 := (HBP4.out.go HS4.out gf).alloc (.cells #[.int .i64 j, .int .i64 j, .slice (some ⟨gy, 0, none⟩) M M] 24)
          have Q5 := (HQ4.out.go HS4.out gf).alloc (.cells #[.int .i64 j, .int .i64 j, .slice (some ⟨gy, 0, none⟩) M M] 24)
          have BQ5 := (HBQ4.out.go HS4.out gf).alloc (.cells #[.int .i64 j, .int .i64 j, .slice (some ⟨gy, 0, none⟩) M M] 24)
          have O5 := (HO4.out.go HS4.out gf).alloc (.cells #[.int .i64 j, .int .i64 j, .slice (some ⟨gy, 0, none⟩) M M] 24)
          have BO5 := (HBO4.out.go HS4.out gf).alloc (.cells #[.int .i64 j, .int .i64 j, .slice (some ⟨gy, 0, none⟩) M M] 24)
          have X5 := (HX4.out.go HS4.out gf).alloc (.cells #[.int .i64 j, .int .i64 j, .slice (some ⟨gy, 0, none⟩) M M] 24)
          have BX5 := (HBX4.out.go HS4.out gf).alloc (.cells #[.int .i64 j, .int .i64 j, .slice (some ⟨gy, 0, none⟩) M M] 24)
          have Y5 := (hX.congr (fun t ht => HML.out t ht)).alloc (.cells #[.int .i64 j, .int .i64 j, .slice (some ⟨gy, 0, none⟩) M M] 24)
          have BY5 := Bx.new w9 j j (.slice (some ⟨gy, 0, none⟩) M M)
          have HS5 := hide S5
          have HL5 := hide L5
          have HP5 := hide P5
          have HBP5 := hide BP5
          have HQ5 := hide Q5
          have HBQ5 := hide BQ5
          have HO5 := hide O5
          have HBO5 := hide BO5
          have HX5 := hide X5
          have HBX5 := hide BX5
          have HY5 := hide Y5
          have HBY5 := hide BY5
          clear gf S5 L5 P5 BP5 Q5 BQ5 O5 BO5 X5 BX5 Y5 BY5 HS4 HL4 HP4 HBP4 HQ4 HBQ4 HO4 HBO4 HX4 HBX4
          clear hX hxs hS8 gr8 CM bp_0 bp_1 bp_2 bq_0 bq_1 bq_2
          have CR : Hid _ := rank_ok (A := PA) (va := .slice (some ⟨gp, 0, none⟩) M M) HS5.out kk1 (by omega) kk1 (by omega) (by rw [← HMM.out]; exact HP5.out.nx (Nat.le_refl _) (HS5.out.kne HP5.out))
          rw [HRK.out] at CR
          have bp_0 := HBP5.out.cell0
          have bp_1 := HBP5.out.cell1
          have bp_2 := HBP5.out.cell2
          go_wp2_with fail
          refine Calls.mono CR.out ?_
          rintro e w10 ⟨rfl, hS8, gr8⟩
          have gf := gr8
          have S6 := (hS8)
          have L6 := below_gb HL5.out gr8 hf HL5.out.size
          have P6 := (HP5.out.go HS5.out gf)
          have BP6 := (HBP5.out.go HS5.out gf)
          have Q6 := (HQ5.out.go HS5.out gf)
          have BQ6 := (HBQ5.out.go HS5.out gf)
          have O6 := (HO5.out.go HS5.out gf)
          have BO6 := (HBO5.out.go HS5.out gf)
          have X6 := (HX5.out.go HS5.out gf)
          have BX6 := (HBX5.out.go HS5.out gf)
          have Y6 := (HY5.out.go HS5.out gf)
          have BY6 := (HBY5.out.go HS5.out gf)
          have HS6 := hide S6
          have HL6 := hide L6
          have HP6 := hide P6
          have HBP6 := hide BP6
          have HQ6 := hide Q6
          have HBQ6 := hide BQ6
          have HO6 := hide O6
          have HBO6 := hide BO6
          have HX6 := hide X6
          have HBX6 := hide BX6
          have HY6 := hide Y6
          have HBY6 := hide BY6
          clear gf S6 L6 P6 BP6 Q6 BQ6 O6 BO6 X6 BX6 Y6 BY6 HS5 HL5 HP5 HBP5 HQ5 HBQ5 HO5 HBO5 HX5 HBX5 HY5 HBY5
          clear hS8 gr8 CR bp_0 bp_1 bp_2
          have CA : Hid _ := alike_any (w := w10) (r := (j : Int)) (c := (j : Int)) (HX6.out.nx (c := M) (Nat.le_refl _) (HS6.out.kne HX6.out)) (HO6.out.nx (c := M) (Nat.le_refl _) (HS6.out.kne HO6.out)) (by omega)
          have bx_0 := HBX6.out.cell0
          have bx_1 := HBX6.out.cell1
          have bx_2 := HBX6.out.cell2
          have bo_0 := HBO6.out.cell0
          have bo_1 := HBO6.out.cell1
          have bo_2 := HBO6.out.cell2
          go_wp2_with fail
          refine Calls.mono CA.out ?_
          rintro e w11 ⟨rfl, k11⟩
          have Y7 := HY6.out.below k11 (Nat.le_refl _)
          have O7 := HO6.out.below k11 (Nat.le_refl _)
          have BY7 := HBY6.out.below k11 (Nat.le_refl _)
          have BO7 := HBO6.out.below k11 (Nat.le_refl _)
          have S7 := HS6.out.below k11 (Nat.le_refl _)
          have L7 := below_step HL6.out k11
          have CA2 : Hid _ := alike_any (w := w11) (r := (j : Int)) (c := (j : Int)) (Y7.nx (c := M) (Nat.le_refl _) (S7.kne Y7)) (O7.nx (c := M) (Nat.le_refl _) (S7.kne O7)) (by omega)
          clear bx_0 bx_1 bx_2 bo_0 bo_1 bo_2 k11 CA
          have by_0 := BY7.cell0
          have by_1 := BY7.cell1
          have by_2 := BY7.cell2
          have bo_0 := BO7.cell0
          have bo_1 := BO7.cell1
          have bo_2 := BO7.cell2
          have HL7 := hide L7
          clear Y7 O7 BY7 BO7 S7 L7
          go_wp2_with fail
          refine Calls.mono CA2.out ?_
          rintro e w12 ⟨rfl, k12⟩
          go_wp2
          go_ret
          exact ⟨rfl, below_step HL7.out k12⟩
end Go.Proofs.Ythedeggggbdibaa

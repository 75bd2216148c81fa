/-
  Contracts of the program and of the statements (part 5 of 8).
-/
import Derived.Test.YtiecoplfiahpnaaFb4

namespace Go.Proofs.Ytiecoplfiahpnaa
open Go.RowKit Go.Lib Go.Maps
section
variable {w w' : World} {lv kv av : Value} {l k : List Int} {r r' : Nat → Prop} {X : List (RR × Value)}
set_option maxRecDepth 100000 in
theorem mayBe_yes {n : Int} (h1 : 1 ≤ n) (h2 : n ≤ 255) : Calls Try.prog 44 #[.int .i64 n] w fun e w' => e = .returned (.bool true) ∧ w' = w := by
  go_enter Try.func44, Try.ntmps44
  go_wp2
  go_ret
  exact ⟨rfl, rfl⟩
set_option maxRecDepth 100000 in
theorem mayBe_no {n : Int} (h : n < 1 ∨ 255 < n) : Calls Try.prog 44 #[.int .i64 n] w fun e w' => e = .returned (.bool false) ∧ w' = w := by
  rcases h with h | h
  · have h1 : ¬ 1 ≤ n := by omega
    go_enter Try.func44, Try.ntmps44
    go_wp2
    go_ret
    exact ⟨rfl, rfl⟩
  · have h1 : 1 ≤ n := by omega
    have h2 : ¬ n ≤ 255 := by omega
    go_enter Try.func44, Try.ntmps44
    go_wp2
    go_ret
    exact ⟨rfl, rfl⟩
theorem mem_at {k : List Int} {x : Int} {j : Nat} : x ∈ k.take j → x ∈ k := List.mem_of_mem_take
set_option maxRecDepth 100000 in
set_option maxHeartbeats 3200000 in
theorem index_any (hk : LS c1 1 r w kv k) (x : Int) (hn : k.length ≤ 4611686018427387904) :
    Calls Try.prog 36 #[kv, .int .i64 x] w fun e w' => ∃ q : Int, e = .returned (.int .i64 q) ∧ (0 ≤ q ↔ x ∈ k) ∧ w' = w := by
  obtain ⟨a, c, e⟩ := hk.shp
  subst e
  have HC : Hid (∀ j y, k[j]? = some y → ∃ g o, a = some ⟨g, o, none⟩ ∧ w.cell? ⟨g, o + j, none⟩ = some (.int .i64 y)) := fun j y hy => by
    obtain ⟨g, o, h1, _, h2⟩ := hk.at1 hy rfl
    exact ⟨g, o, h1, h2⟩
  obtain ⟨m, hm⟩ : ∃ m, m = k.length := ⟨_, rfl⟩
  rw [← hm] at hn ⊢
  have HM := hide hm
  clear hm hk
  go_enter Try.func36, Try.ntmps36
  go_wp2
  go_loopw [8] (fun i wr => ∃ j : Nat, j ≤ m ∧ i = .int .i64 j ∧ x ∉ k.take j ∧ wr = w) (fun i _ => m - (intOf i).toNat)
  case atStart => exact ⟨0, Nat.zero_le _, rfl, by simp, rfl⟩
  case round =>
    obtain ⟨j, hj, rfl, hx0, rfl⟩ := hrel
    by_cases hlt : j < m
    · have b1 : (j : Int) < (m : Int) := by omega
      have b0 : (0 : Int) ≤ (j : Int) := by omega
      obtain ⟨y, hy⟩ : ∃ y, k[j]? = some y := ⟨_, List.getElem?_eq_getElem (by rw [← HM.out]; exact hlt)⟩
      obtain ⟨g, o, rfl, z0⟩ := HC.out j y hy
      by_cases h0 : x = y
      · have HE : Hid (x ∈ k) := by show x ∈ k; rw [h0]; exact List.mem_of_getElem? hy
        clear hx0 hy
        go_wp2
        go_ret
        exact ⟨j, rfl, ⟨fun _ => HE.out, fun _ => by omega⟩, rfl⟩
      · have HE : Hid (x ∉ k.take (j + 1)) := by show x ∉ k.take (j + 1); rw [take_snoc_at hy]; simp [hx0, h0]
        clear hx0 hy
        go_wp2
        exact ⟨⟨j + 1, by omega, by go_num, HE.out, trivial⟩, by simp [intOf]; omega⟩
    · obtain rfl : j = m := by omega
      have e : k.take j = k := List.take_of_length_le (by have := HM.out; omega)
      rw [e] at hx0
      have HE := hide hx0
      clear hx0 e
      go_wp2
      go_ret
      exact ⟨-1, rfl, ⟨fun h => by omega, fun h => absurd h HE.out⟩, rfl⟩
set_option maxRecDepth 100000 in
set_option maxHeartbeats 3200000 in
theorem contains_any (hk : LS c1 1 r w kv k) (x : Int) (hn : k.length ≤ 4611686018427387904) :
    Calls Try.prog 15 #[kv, .int .i64 x] w fun e w' => e = .returned (.bool (decide (x ∈ k))) ∧ w' = w := by
  have HI := hide (index_any hk x hn)
  obtain ⟨a, c, e⟩ := hk.shp
  subst e
  clear hk
  by_cases h : x ∈ k
  · rw [decide_eq_true h]
    have Hh := hide h
    clear h
    go_enter Try.func15, Try.ntmps15
    go_wp2_with fail
    refine HI.out.mono ?_
    rintro e w1 ⟨q, rfl, hq, rfl⟩
    have h1 : 0 ≤ q := hq.2 Hh.out
    clear hq
    go_wp2
    go_ret
    exact ⟨rfl, rfl⟩
  · rw [decide_eq_false h]
    have Hh := hide h
    clear h
    go_enter Try.func15, Try.ntmps15
    go_wp2_with fail
    refine HI.out.mono ?_
    rintro e w1 ⟨q, rfl, hq, rfl⟩
    have h1 : decide (0 ≤ q) = false := decide_eq_false fun h1 => Hh.out (hq.1 h1)
    clear hq
    go_wp2
    go_ret
    exact ⟨rfl, rfl⟩
set_option maxRecDepth 100000 in
set_option maxHeartbeats 3200000 in
theorem first_any (hl : LS c1 1 r w lv l) (hk : LS c1 1 r' w kv k) (hn : l.length ≤ 4611686018427387904) (hn2 : k.length ≤ 4611686018427387904) :
    Calls Try.prog 5 #[lv, kv] w fun e w' => e = .returned (.int .i64 (frs k l)) ∧ Below w.heap.size w w' := by
  obtain ⟨a, c, e⟩ := hl.shp
  subst e
  have HC : Hid (∀ j x, l[j]? = some x → ∀ wr, Below w.heap.size w wr → ∃ g o, a = some ⟨g, o, none⟩ ∧ wr.cell? ⟨g, o + j, none⟩ = some (.int .i64 x)) := fun j x hx wr hb => by
    obtain ⟨g, o, h1, _, h2⟩ := (hl.bel hb).at1 hx rfl
    exact ⟨g, o, h1, h2⟩
  have HK := hide hk
  obtain ⟨m, hm⟩ : ∃ m, m = l.length := ⟨_, rfl⟩
  rw [← hm] at hn ⊢
  have HM := hide hm
  clear hm hl hk
  go_enter Try.func5, Try.ntmps5
  go_wp2
  go_loopw [9] (fun i wr => ∃ j : Nat, j ≤ m ∧ i = .int .i64 j ∧ frs k l = frs k (l.drop j) ∧ Below w.heap.size w wr) (fun i _ => m - (intOf i).toNat)
  case atStart => exact ⟨0, Nat.zero_le _, rfl, by rw [List.drop_zero], Below.refl _ _⟩
  case round =>
    obtain ⟨j, hj, rfl, hf, hB⟩ := hrel
    by_cases hlt : j < m
    · have b1 : (j : Int) < (m : Int) := by omega
      have b0 : (0 : Int) ≤ (j : Int) := by omega
      obtain ⟨x, hx⟩ : ∃ x, l[j]? = some x := ⟨_, List.getElem?_eq_getElem (by rw [← HM.out]; exact hlt)⟩
      obtain ⟨g, o, rfl, z0⟩ := HC.out j x hx wr hB
      rw [frs_at hx] at hf
      have HF := hide hf
      have HB := hide hB
      have HK2 := hide (contains_any (HK.out.bel hB) x hn2)
      clear hf hB hx
      by_cases h0 : x = 0
      · go_wp2
        exact ⟨⟨j + 1, by omega, by go_num, by rw [HF.out, if_pos (.inl h0)], HB.out⟩, by simp [intOf]; omega⟩
      · by_cases h1 : x ∈ k
        · rw [decide_eq_true h1] at HK2
          have H1 := hide h1
          clear h1
          go_wp2_with (go_at_call 15; refine HK2.out.mono ?_; rintro e w1 ⟨rfl, rfl⟩)
          exact ⟨⟨j + 1, by omega, by go_num, by rw [HF.out, if_pos (.inr H1.out)], HB.out⟩, by simp [intOf]; omega⟩
        · rw [decide_eq_false h1] at HK2
          have H1 := hide h1
          clear h1
          go_wp2_with (go_at_call 15; refine HK2.out.mono ?_; rintro e w1 ⟨rfl, rfl⟩)
          go_ret
          exact ⟨by rw [HF.out, if_neg (fun h => by rcases h with h | h; exact h0 h; exact H1.out h)]; first | rfl | simp, HB.out⟩
    · obtain rfl : j = m := by omega
      have e : l.drop j = [] := List.drop_eq_nil_of_le (by have := HM.out; omega)
      rw [e] at hf
      have HF := hide hf
      have HB := hide hB
      clear hf hB
      go_wp2
      go_ret
      exact ⟨by rw [HF.out]; rfl, HB.out⟩
set_option maxRecDepth 100000 in
set_option maxHeartbeats 3200000 in
theorem codesOf_any (hL : LS x3 3 r w av X) (hS : ∀ x ∈ X, ∃ a n c, x.2 = .slice a n c) (hn : X.length ≤ 1000000) :
    Calls Try.prog 29 #[av] w fun e w' => ∃ v, e = .returned v ∧ OW c1 1 24 w.heap.size v (X.map (·.1.c)) w' ∧ Below w.heap.size w w' := by
  obtain ⟨a, c, rfl, h1, h2⟩ := hL
  have HC : Hid (∀ j x, X[j]? = some x → ∀ wr, Below w.heap.size w wr → ∃ g o, a = some ⟨g, o, none⟩ ∧ wr.cell? ⟨g, o + j * 3, none⟩ = some (.int .i64 x.1.c) ∧ wr.cell? ⟨g, o + j * 3 + 1, none⟩ = some (.string x.1.d) ∧ wr.cell? ⟨g, o + j * 3 + 2, none⟩ = some x.2) := fun j x hx wr hb => by
    rcases h2 with h2 | ⟨g, o, ea, hr, hg, hG⟩
    · rw [h2] at hx; simp at hx
    · exact ⟨g, o, ea, (hb.cell (p := ⟨g, o + j * 3, none⟩) hg).trans (hG j x hx 0 _ rfl), (hb.cell (p := ⟨g, o + j * 3 + 1, none⟩) hg).trans (hG j x hx 1 _ rfl), (hb.cell (p := ⟨g, o + j * 3 + 2, none⟩) hg).trans (hG j x hx 2 _ rfl)⟩
  obtain ⟨m, hm⟩ : ∃ m, m = X.length := ⟨_, rfl⟩
  rw [← hm] at hn ⊢
  have HM := hide hm
  have HS := hide hS
  clear hm h1 h2 hS
  go_enter Try.func29, Try.ntmps29
  go_wp2
  go_loopw [3, 8] (fun v i wr => ∃ j : Nat, j ≤ m ∧ i = .int .i64 j ∧ OW c1 1 24 w.heap.size v ((X.take j).map (·.1.c)) wr ∧ Below w.heap.size w wr) (fun _ i _ => m - (intOf i).toNat)
  case atStart => exact ⟨0, Nat.zero_le _, rfl, by rw [List.take_zero]; exact OW.nil _ _ _ _ _, Below.refl _ _⟩
  case round =>
    obtain ⟨j, hj, rfl, hO, hB⟩ := hrel
    by_cases hlt : j < m
    · have b1 : (j : Int) < (m : Int) := by omega
      have b0 : (0 : Int) ≤ (j : Int) := by omega
      obtain ⟨x, hx⟩ : ∃ x, X[j]? = some x := ⟨_, List.getElem?_eq_getElem (by rw [← HM.out]; exact hlt)⟩
      obtain ⟨g, o, rfl, z0, z1, z2⟩ := HC.out j x hx _ hB
      have hsx := HS.out x (List.mem_of_getElem? hx)
      obtain ⟨xr, xu⟩ := x
      obtain ⟨ua, un, uc, hu⟩ := hsx
      dsimp only at hu z0 z1 z2
      subst hu
      obtain ⟨cc, hcc⟩ : ∃ cc, cc = xr.c := ⟨_, rfl⟩
      obtain ⟨dd, hdd⟩ : ∃ dd, dd = xr.d := ⟨_, rfl⟩
      rw [← hcc] at z0
      rw [← hdd] at z1
      obtain ⟨n5, hn5⟩ : ∃ n5, n5 = wr.heap.size := ⟨_, rfl⟩
      obtain ⟨Zw, hZw⟩ : ∃ Zw, Zw = wr.alloc (.cells #[.int .i64 cc, .string dd, .slice ua un uc] 62) := ⟨_, rfl⟩
      have hZB : Below wr.heap.size wr Zw := by rw [hZw]; exact (Below.refl _ _).alloc (Nat.le_refl _) _
      have hblk : Zw.heap[n5]? = some (.cells #[.int .i64 cc, .string dd, .slice ua un uc] 62 (0, 0)) := by rw [hZw, hn5]; exact heap_alloc_new wr _
      have k0 : Zw.cell? ⟨n5, 0, none⟩ = some (.int .i64 cc) := by simp [World.cell?, hblk]
      obtain ⟨v2, w2, hr1, hO2, hG2⟩ := cpush (hO.keep hZB) cc (by rw [List.length_map, List.length_take]; omega) (Nat.le_trans hB.size hZB.size)
      have HE : Hid (OW c1 1 24 w.heap.size v2 ((X.take (j + 1)).map (·.1.c)) w2 ∧ Below w.heap.size w w2) := by
        refine ⟨?_, hG2.below (hB.trans (hZB.mono hB.size)) (Nat.le_trans hB.size hZB.size) fun i e => (hO.lt i e).1⟩
        rw [take_snoc_at hx, List.map_append]
        show OW c1 1 24 w.heap.size v2 ((X.take j).map (·.1.c) ++ [xr.c]) w2
        rw [← hcc]
        exact hO2
      have HZw := hide hZw
      have Hn5 := hide hn5
      clear hO hB hO2 hG2 hZw hn5 hZB hblk hcc hdd hx
      go_upto_region 5 with fail
      rw [← HZw.out, ← Hn5.out]
      go_wp2_with (at_builtin; refine Lib.wpList_append_run _ rfl _ _ _ _ rfl _ _ rfl rfl _ _ hr1 ?_)
      exact ⟨⟨j + 1, by omega, by go_num, HE.out⟩, by simp [intOf]; omega⟩
    · obtain rfl : j = m := by omega
      have e : X.take j = X := List.take_of_length_le (by have := HM.out; omega)
      rw [e] at hO
      have HE := hide (And.intro hO hB)
      clear hO hB
      go_wp2
      go_ret
      exact ⟨_, rfl, HE.out⟩
/-- Where an outcome stands. -/
structure OC (w wr : World) (X0 Y : Nat) (C N : Int) : Prop where
  r : R7 wr Y C N (.slice none 0 0) (.slice none 0 0)
  z : R7 wr X0 0 0 (.slice none 0 0) (.slice none 0 0)
  be : Below X0 w wr
  le : X0 < Y
theorem OC.set2 {wr : World} {X0 Y : Nat} {C N : Int} (h : OC w wr X0 Y C N) (N' : Int) : OC w (wr.setCell ⟨Y, 2, none⟩ (.int .i64 N')) X0 Y C N' := by
  have hle := h.le
  have hlt := h.r.lt
  refine ⟨heap_set_self h.r, (heap_setCell_other wr ⟨Y, 2, none⟩ X0 _ (by show X0 ≠ Y; omega)).trans h.z, ?_, hle⟩
  exact ((Gs.refl (fun i => i = Y) wr).set1 _ _).below h.be (by have := h.z.lt; omega) (fun i e => by omega)
set_option maxRecDepth 100000 in
set_option maxHeartbeats 3200000 in
theorem outcome_any (hl : LS c1 1 r w lv l) (hk : LS c1 1 r' w kv k) (hn : l.length ≤ 1000000) (hn2 : k.length ≤ 1000000) :
    Calls Try.prog 25 #[lv, kv] w fun e w' => e = .returned (.agg #[.int .i64 (frs k l), .string ⟨#[]⟩, .int .i64 ((gds l : Nat) : Int), .slice none 0 0, .slice none 0 0, .slice none 0 0, .slice none 0 0]) ∧ Below w.heap.size w w' := by
  obtain ⟨a, c, e⟩ := hl.shp
  obtain ⟨U, hU⟩ : ∃ U, U = w.alloc (.cells #[.int .i64 0, .string ⟨#[]⟩, .int .i64 0, .slice none 0 0, .slice none 0 0, .slice none 0 0, .slice none 0 0] 35) := ⟨_, rfl⟩
  obtain ⟨X0, hX⟩ : ∃ X0, X0 = w.heap.size := ⟨_, rfl⟩
  have hBU : Below w.heap.size w U := by rw [hU]; exact (Below.refl _ _).alloc (Nat.le_refl _) _
  have hZ : R7 U X0 0 0 (.slice none 0 0) (.slice none 0 0) := by rw [hU, hX]; exact heap_alloc_new w _
  have HF := hide (first_any (hl.bel hBU) (hk.bel hBU) (by omega) (by omega))
  subst e
  have HC : Hid (∀ j x, l[j]? = some x → ∀ wr, Below w.heap.size w wr → ∃ g o, a = some ⟨g, o, none⟩ ∧ wr.cell? ⟨g, o + j, none⟩ = some (.int .i64 x)) := fun j x hx wr hb => by
    obtain ⟨g, o, h1, _, h2⟩ := (hl.bel hb).at1 hx rfl
    exact ⟨g, o, h1, h2⟩
  obtain ⟨m, hm⟩ : ∃ m, m = l.length := ⟨_, rfl⟩
  obtain ⟨C, hC⟩ : ∃ C, C = frs k l := ⟨_, rfl⟩
  obtain ⟨N, hN⟩ : ∃ N, N = ((gds l : Nat) : Int) := ⟨_, rfl⟩
  rw [← hm] at hn HF ⊢
  rw [← hC] at HF ⊢
  rw [← hN]
  have HM := hide hm
  have HN := hide hN
  have HU := hide hU
  have HX := hide hX
  have HZ := hide (And.intro hBU hZ)
  clear hm hl hk hC hN hU hX hBU hZ
  go_enter Try.func25, Try.ntmps25
  go_upto_region 1 with fail
  rw [← HU.out, ← HX.out]
  go_wp2_with fail
  refine HF.out.mono ?_
  rintro e w1 ⟨rfl, hB1⟩
  obtain ⟨W, hW⟩ : ∃ W, W = w1.alloc (.cells #[.int .i64 C, .string ⟨#[]⟩, .int .i64 0, .slice none 0 0, .slice none 0 0, .slice none 0 0, .slice none 0 0] 35) := ⟨_, rfl⟩
  obtain ⟨Y, hY⟩ : ∃ Y, Y = w1.heap.size := ⟨_, rfl⟩
  have HO0 : Hid (OC w W X0 Y C 0) := by
    have hb := HZ.out.1.trans (hB1.mono HZ.out.1.size)
    refine ⟨by rw [hW, hY]; exact heap_alloc_new w1 _, ?_, ?_, ?_⟩
    · refine ((HZ.out.2.bel hB1).bel (w' := W) ?_)
      rw [hW]; exact (Below.refl _ _).alloc (Nat.le_refl _) _
    · rw [HX.out, hW]; exact hb.alloc hb.size _
    · rw [hY]; exact (HZ.out.2.bel hB1).lt
  have HW := hide hW
  have HY := hide hY
  clear hW hY hB1
  go_upto_region 2 with fail
  rw [← HW.out, ← HY.out]
  go_wp2
  go_loopw [14] (fun i wr => ∃ j : Nat, j ≤ m ∧ i = .int .i64 j ∧ OC w wr X0 Y C ((gds (l.take j) : Nat) : Int)) (fun i _ => m - (intOf i).toNat)
  case atStart => exact ⟨0, Nat.zero_le _, rfl, by rw [List.take_zero]; exact HO0.out⟩
  case round =>
    obtain ⟨j, hj, rfl, hO⟩ := hrel
    have hgl := gds_le (l.take j)
    rw [List.length_take] at hgl
    have HO := hide hO
    by_cases hlt : j < m
    · have b1 : (j : Int) < (m : Int) := by omega
      have b0 : (0 : Int) ≤ (j : Int) := by omega
      obtain ⟨x, hx⟩ : ∃ x, l[j]? = some x := ⟨_, List.getElem?_eq_getElem (by rw [← HM.out]; exact hlt)⟩
      obtain ⟨g, o, rfl, z0⟩ := HC.out j x hx wr (by rw [← HX.out]; exact hO.be)
      have hs := gds_snoc (l.take j) x
      rw [← take_snoc_at hx] at hs
      obtain ⟨G, hG⟩ : ∃ G, G = gds (l.take j) := ⟨_, rfl⟩
      rw [← hG] at hs hgl HO
      have HS := hide hs
      have y2 : wr.cell? ⟨Y, 2, none⟩ = some (.int .i64 (G : Int)) := HO.out.r.cell 2
      have f2 := HO.out.r.free 2
      clear hs hG hx hO
      by_cases h0 : x = 0
      · have HE : Hid (OC w (wr.setCell ⟨Y, 2, none⟩ (.int .i64 ((G : Int) + 1))) X0 Y C ((gds (l.take (j + 1)) : Nat) : Int)) := by
          have := HO.out.set2 ((G : Int) + 1)
          show OC _ _ _ _ _ _
          rw [HS.out, if_pos h0]
          exact this
        go_wp2
        exact ⟨⟨j + 1, by omega, by go_num, HE.out⟩, by simp [intOf]; omega⟩
      · have HE : Hid (OC w wr X0 Y C ((gds (l.take (j + 1)) : Nat) : Int)) := by
          show OC _ _ _ _ _ _
          rw [HS.out, if_neg h0]
          exact HO.out
        go_wp2
        exact ⟨⟨j + 1, by omega, by go_num, HE.out⟩, by simp [intOf]; omega⟩
    · obtain rfl : j = m := by omega
      have e : l.take j = l := List.take_of_length_le (by have := HM.out; omega)
      rw [e, ← HN.out] at hO
      have HO := hide hO
      have c0 : wr.cell? ⟨Y, 0, none⟩ = some (.int .i64 C) := hO.r.cell 0
      have c1 : wr.cell? ⟨Y, 1, none⟩ = some (.string ⟨#[]⟩) := hO.r.cell 1
      have c2 : wr.cell? ⟨Y, 2, none⟩ = some (.int .i64 N) := hO.r.cell 2
      have c3 : wr.cell? ⟨Y, 3, none⟩ = some (.slice none 0 0) := hO.r.cell 3
      have c4 : wr.cell? ⟨Y, 4, none⟩ = some (.slice none 0 0) := hO.r.cell 4
      have c5 : wr.cell? ⟨Y, 5, none⟩ = some (.slice none 0 0) := hO.r.cell 5
      have c6 : wr.cell? ⟨Y, 6, none⟩ = some (.slice none 0 0) := hO.r.cell 6
      have hrun := store_run (t := 35) (o := 0) hO.z #[.int .i64 C, .string ⟨#[]⟩, .int .i64 N, .slice none 0 0, .slice none 0 0, .slice none 0 0, .slice none 0 0] (Nat.le_of_ble_eq_true rfl) Try.sizeR (by simp [Value.oneCell'])
      obtain ⟨V, hV⟩ : ∃ V, V = wr.setCells X0 0 [.int .i64 C, .string ⟨#[]⟩, .int .i64 N, .slice none 0 0, .slice none 0 0, .slice none 0 0, .slice none 0 0] := ⟨_, rfl⟩
      have hRY : R7 V X0 C N (.slice none 0 0) (.slice none 0 0) := by
        have h1 := setCells_self [.int .i64 C, .string ⟨#[]⟩, .int .i64 N, .slice none 0 0, .slice none 0 0, .slice none 0 0, .slice none 0 0] 0 wr _ hO.z
        rw [← hV] at h1
        simpa [putAll, R7] using h1
      simp only [] at hrun
      rw [← hV] at hrun
      have HE : Hid (Below w.heap.size w V) := by
        have hGY2 : Gs (fun i => i = X0) wr V := by rw [hV]; exact Gs.cells _ _ _ (Gs.refl _ _) (.inl rfl)
        show Below w.heap.size w V
        rw [← HX.out]
        exact hGY2.below hO.be (by have := hO.z.lt; omega) (fun i e => by omega)
      have r0 : V.cell? ⟨X0, 0, none⟩ = some (.int .i64 C) := hRY.cell 0
      have r1 : V.cell? ⟨X0, 1, none⟩ = some (.string ⟨#[]⟩) := hRY.cell 1
      have r2 : V.cell? ⟨X0, 2, none⟩ = some (.int .i64 N) := hRY.cell 2
      have r3 : V.cell? ⟨X0, 3, none⟩ = some (.slice none 0 0) := hRY.cell 3
      have r4 : V.cell? ⟨X0, 4, none⟩ = some (.slice none 0 0) := hRY.cell 4
      have r5 : V.cell? ⟨X0, 5, none⟩ = some (.slice none 0 0) := hRY.cell 5
      have r6 : V.cell? ⟨X0, 6, none⟩ = some (.slice none 0 0) := hRY.cell 6
      have b1 : ¬ (j : Int) < (j : Int) := by omega
      clear hV hRY hO e
      go_wp2_with (refine wpList_store_run rfl 35 _ _ rfl _ _ rfl rfl hrun ?_)
      exact bodyPost_ret (v := .agg #[.int .i64 C, .string ⟨#[]⟩, .int .i64 N, .slice none 0 0, .slice none 0 0, .slice none 0 0, .slice none 0 0]) (by simp [results, Try.results25, go_sem, r0, r1, r2, r3, r4, r5, r6]) rfl ⟨rfl, HE.out⟩
end
end Go.Proofs.Ytiecoplfiahpnaa

namespace Go.Proofs.Ytiecoplfiahpnaa
open Go.RowKit Go.Lib Go.Maps
section
variable {α : Type} {f : α → List Value} {K : Nat}
theorem flat_set (hk : ∀ x, (f x).length = K) : ∀ (l : List α) (j k : Nat) (x x' : α) (v : Value), l[j]? = some x → k < K → f x' = (f x).set k v → (l.flatMap f).set (j * K + k) v = (l.set j x').flatMap f
  | [], _, _, _, _, _, h, _, _ => by simp at h
  | y :: r, 0, k, x, x', v, h, hk2, he => by
    simp at h
    subst h
    rw [List.flatMap_cons, List.set_cons_zero, List.flatMap_cons, he, Nat.zero_mul, Nat.zero_add, List.set_append_left _ _ (by rw [hk]; exact hk2)]
  | y :: r, j + 1, k, x, x', v, h, hk2, he => by
    simp at h
    rw [List.flatMap_cons, List.set_cons_succ, List.flatMap_cons, List.set_append_right _ _ (by rw [hk, Nat.add_mul, Nat.one_mul]; omega), hk, show (j + 1) * K + k - K = j * K + k from by rw [Nat.add_mul, Nat.one_mul]; omega, flat_set hk r j k x x' v h hk2 he]
end
/-- A make that was reckoned ahead. -/
theorem wpList_make_run {ops : Array Oper} {rest : List Oper} {op : Oper} {a : Act} {w w1 : World} {Q : Exit → Act → World → Prop} (hgd : op.guard = none) (ty : TypeId) (x y : Operand) (ho : op.op = .makeSlice ty x y)
    (p v u : Value) (hx : a.eval x = p) (hy : a.eval y = v) (hr : (Instr.makeSlice ty p v).run Try.prog w = .ok u w1)
    (h : wpList Try.prog ops Q rest (a.put op.dst u) w1) : wpList Try.prog ops Q (op :: rest) a w :=
  wpList_plain hgd fun _ hK => by
    unfold Oper.wp execOp
    simp only [ho, hx, hy, Sem.run_bind, Sem.run_pure, Result.andThen_ok, hr]
    exact hK _ _ h
/-- Requests in a block of their own. -/
def RQL (w : World) (g : Nat) (l : List QT) : Prop := w.heap[g]? = some (.cells (l.flatMap q4).toArray 69 (0, 0))
def q0 : QT := ⟨0, 0, ⟨#[]⟩, ⟨#[]⟩⟩
section
variable {w w' : World} {g j : Nat} {l : List QT} {q : QT} {r : Nat → Prop}
theorem RQL.lt (h : RQL w g l) : g < w.heap.size := lt_of_block h
theorem RQL.bel (h : RQL w g l) (hb : Below w.heap.size w w') : RQL w' g l := (hb.block g h.lt).trans h
theorem RQL.set (h : RQL w g l) (hq : l[j]? = some q) (k : Nat) (hk : k < 4) (v : Value) (q' : QT) (he : q4 q' = (q4 q).set k v) : RQL (w.setCell ⟨g, j * 4 + k, none⟩ v) g (l.set j q') := by
  have := heap_set_self (j := j * 4 + k) (u := v) h
  unfold RQL
  rw [← flat_set q4_len l j k q q' v hq hk he]
  simpa using this
theorem RQL.four (h : RQL w g l) (hq : l[j]? = some q) (p : QT) : RQL (w.setCells g (j * 4) [.int .i64 p.st, .int .i64 p.k, .string p.n, .string p.d]) g (l.set j p) := by
  have hl : j < l.length := (List.getElem?_eq_some_iff.1 hq).1
  simp only [World.setCells]
  have e1 := h.set hq 0 (by decide) (.int .i64 p.st) ⟨p.st, q.k, q.n, q.d⟩ rfl
  have e2 := e1.set (j := j) (q := ⟨p.st, q.k, q.n, q.d⟩) (by rw [List.getElem?_set_self hl]) 1 (by decide) (.int .i64 p.k) ⟨p.st, p.k, q.n, q.d⟩ rfl
  have e3 := e2.set (j := j) (q := ⟨p.st, p.k, q.n, q.d⟩) (by rw [List.getElem?_set_self (by simpa using hl)]) 2 (by decide) (.string p.n) ⟨p.st, p.k, p.n, q.d⟩ rfl
  have e4 := e3.set (j := j) (q := ⟨p.st, p.k, p.n, q.d⟩) (by rw [List.getElem?_set_self (by simpa using hl)]) 3 (by decide) (.string p.d) p rfl
  simp only [List.set_set] at e4
  exact e4
theorem RQL.cell (h : RQL w g l) (hq : l[j]? = some q) {k : Nat} (hk : k < 4) {v : Value} (hv : (q4 q)[k]? = some v) : w.cell? ⟨g, j * 4 + k, none⟩ = some v := by
  rw [cell_of_row w g _ _ _ _ h]
  simp only [List.getElem?_toArray]
  rw [flat_get q4_len l j k hk, hq]
  exact hv
theorem RQL.free (h : RQL w g l) (o : Nat) : w.frozen? ⟨g, o, none⟩ = false := by simp [World.frozen?, show w.heap[g]? = _ from h]
theorem RQL.gs (h : RQL w g l) (hr : r g) (c : Nat) : LS q4 4 r w (.slice (some ⟨g, 0, none⟩) l.length c) l := by
  refine ⟨_, _, rfl, (fun e => by cases e), .inr ⟨g, 0, rfl, hr, h.lt, fun i x hx k u hu => ?_⟩⟩
  rw [Nat.zero_add]
  exact h.cell hx (by rw [← q4_len x]; exact (List.getElem?_eq_some_iff.1 hu).1) hu
theorem made_q (n : Nat) : madeCells (Value.agg #[.int .i64 0, .int .i64 0, .string ⟨#[]⟩, .string ⟨#[]⟩]).cells (n * 4) = ((List.replicate n q0).flatMap q4).toArray := by
  apply Array.ext_getElem?
  intro i
  have hz : (Value.agg #[.int .i64 0, .int .i64 0, .string ⟨#[]⟩, .string ⟨#[]⟩]).cells = #[.int .i64 0, .int .i64 0, .string ⟨#[]⟩, .string ⟨#[]⟩] := rfl
  simp only [List.getElem?_toArray]
  have e : i = i / 4 * 4 + i % 4 := by omega
  have hm : i % 4 < 4 := Nat.mod_lt _ (by decide)
  conv => rhs; rw [e, flat_get q4_len _ _ _ hm, List.getElem?_replicate]
  rw [madeCells, hz, Array.getElem?_map]
  by_cases h : i < n * 4
  · rw [if_pos (by omega)]
    have : (Array.range (n * 4))[i]? = some i := by simp [h]
    rw [this]
    have h4 : i % 4 = 0 ∨ i % 4 = 1 ∨ i % 4 = 2 ∨ i % 4 = 3 := by omega
    rcases h4 with h4 | h4 | h4 | h4 <;> simp [h4, q4, q0]
  · rw [if_neg (by omega)]
    have : (Array.range (n * 4))[i]? = none := by simp; omega
    rw [this]
    rfl
theorem run_makeQ (n : Nat) (hn : n ≤ 255) (w : World) : ∃ W, (Instr.makeSlice 90 (.int .i64 (n : Int)) (.int .i64 (n : Int))).run Try.prog w = .ok (.slice (some ⟨w.heap.size, 0, none⟩) n n) W ∧ RQL W w.heap.size (List.replicate n q0) ∧ Below w.heap.size w W := by
  obtain ⟨i0, hi, hz0, hz1, hz2⟩ := info_parts Try.infoQ
  have hr := run_make (P := Try.prog) w 90 69 i0 _ Try.underlying90 hi hz0 .i64 .i64 (n : Int) (n : Int) (by omega) (Int.le_refl _) (by rw [hz2]; omega) (by omega)
  rw [hz1] at hr
  simp only [Int.toNat_natCast] at hr
  rw [made_q] at hr
  exact ⟨_, hr, heap_alloc_new w _, (Below.refl _ _).alloc (Nat.le_refl _) _⟩
theorem aq_at {k : Int} {nm d : ByteArray} {n j : Nat} (h : j < n) : (aq k nm d j ++ List.replicate (n - j) q0)[j]? = some q0 := by
  rw [List.getElem?_append_right (by rw [aq_len]; omega), aq_len, Nat.sub_self, List.getElem?_replicate, if_pos (by omega)]
theorem aq_set {k : Int} {nm d : ByteArray} {n j : Nat} (h : j < n) : (aq k nm d j ++ List.replicate (n - j) q0).set j ⟨(j : Int), k, nm, d⟩ = aq k nm d (j + 1) ++ List.replicate (n - (j + 1)) q0 := by
  rw [List.set_append_right _ _ (by rw [aq_len]; omega), aq_len, Nat.sub_self, show n - j = (n - (j + 1)) + 1 from by omega, List.replicate_succ, List.set_cons_zero, aq_snoc, List.append_assoc]
  rfl
set_option maxRecDepth 100000 in
theorem toAll_no {n st k : Int} {nm d : ByteArray} (h : n < 1 ∨ 255 < n) : Calls Try.prog 45 #[.int .i64 n, .agg #[.int .i64 st, .int .i64 k, .string nm, .string d]] w fun e w' => e = .returned (.slice none 0 0) ∧ Below w.heap.size w w' := by
  have HM := hide (mayBe_no (w := w.alloc (.cells #[.int .i64 st, .int .i64 k, .string nm, .string d] 69)) h)
  clear h
  go_enter Try.func45, Try.ntmps45
  go_wp2_with (go_at_call 44; refine HM.out.mono ?_; rintro e w1 ⟨rfl, rfl⟩)
  go_ret
  exact ⟨rfl, (Below.refl _ _).alloc (Nat.le_refl _) _⟩
set_option maxRecDepth 100000 in
set_option maxHeartbeats 3200000 in
theorem toAll_yes {n : Nat} {st k : Int} {nm d : ByteArray} (h1 : 1 ≤ n) (h2 : n ≤ 255) : Calls Try.prog 45 #[.int .i64 (n : Int), .agg #[.int .i64 st, .int .i64 k, .string nm, .string d]] w fun e w' => ∃ g, e = .returned (.slice (some ⟨g, 0, none⟩) n n) ∧ RQL w' g (aq k nm d n) ∧ w.heap.size ≤ g ∧ Below w.heap.size w w' := by
  obtain ⟨U, hU⟩ : ∃ U, U = w.alloc (.cells #[.int .i64 st, .int .i64 k, .string nm, .string d] 69) := ⟨_, rfl⟩
  obtain ⟨bx, hbx⟩ : ∃ bx, bx = w.heap.size := ⟨_, rfl⟩
  have hBU : Below w.heap.size w U := by rw [hU]; exact (Below.refl _ _).alloc (Nat.le_refl _) _
  have hblk : U.heap[bx]? = some (.cells #[.int .i64 st, .int .i64 k, .string nm, .string d] 69 (0, 0)) := by rw [hU, hbx]; exact heap_alloc_new w _
  have HM := hide (mayBe_yes (w := U) (n := (n : Int)) (by omega) (by omega))
  obtain ⟨W, hW, hR, hBW⟩ := run_makeQ n h2 U
  obtain ⟨g, hg⟩ : ∃ g, g = U.heap.size := ⟨_, rfl⟩
  rw [← hg] at hW hR
  have hgb : bx < g := by rw [hg]; exact lt_of_block hblk
  have H0 : Hid (RQL W g (aq k nm d 0 ++ List.replicate (n - 0) q0) ∧ W.heap[bx]? = some (.cells #[.int .i64 st, .int .i64 k, .string nm, .string d] 69 (0, 0)) ∧ Below w.heap.size w W) :=
    ⟨by simpa [aq] using hR, (hBW.block bx (lt_of_block hblk)).trans hblk, hBU.trans (hBW.mono hBU.size)⟩
  have HU := hide hU
  have Hbx := hide hbx
  have Hn := hide (And.intro h1 h2)
  have Hg := hide hg
  have Hgb := hide hgb
  clear hU hbx hBU hblk hR hBW hg hgb h1 h2
  go_enter Try.func45, Try.ntmps45
  go_upto_region 1 with fail
  rw [← HU.out, ← Hbx.out]
  go_wp2_with (first | (go_at_call 44; refine HM.out.mono ?_; rintro e w1 ⟨rfl, rfl⟩) | (refine wpList_make_run rfl 90 _ _ rfl _ _ _ rfl rfl hW ?_))
  go_loopw [14] (fun i wr => ∃ j : Nat, j ≤ n ∧ i = .int .i64 j ∧ RQL wr g (aq k nm d j ++ List.replicate (n - j) q0) ∧ wr.heap[bx]? = some (.cells #[.int .i64 st, .int .i64 k, .string nm, .string d] 69 (0, 0)) ∧ Below w.heap.size w wr) (fun i _ => n - (intOf i).toNat)
  case atStart => exact ⟨0, Nat.zero_le _, rfl, H0.out⟩
  case round =>
    obtain ⟨j, hj, rfl, hR, hb, hB⟩ := hrel
    have h2 := Hn.out.2
    by_cases hlt : j < n
    · have b1 : (j : Int) < (n : Int) := by omega
      have b0 : (0 : Int) ≤ (j : Int) := by omega
      have y0 : wr.cell? ⟨bx, 0, none⟩ = some (.int .i64 st) := by simp [World.cell?, hb]
      have y1 : wr.cell? ⟨bx, 1, none⟩ = some (.int .i64 k) := by simp [World.cell?, hb]
      have y2 : wr.cell? ⟨bx, 2, none⟩ = some (.string nm) := by simp [World.cell?, hb]
      have y3 : wr.cell? ⟨bx, 3, none⟩ = some (.string d) := by simp [World.cell?, hb]
      have hq0 := aq_at (k := k) (nm := nm) (d := d) hlt
      have hrun := store_run (t := 69) (o := j * 4) hR #[.int .i64 st, .int .i64 k, .string nm, .string d] (by simp [flat_len q4_len, aq_len]; omega) Try.sizeQ (by simp [Value.oneCell'])
      obtain ⟨V, hV⟩ : ∃ V, V = wr.setCells g (j * 4) [.int .i64 st, .int .i64 k, .string nm, .string d] := ⟨_, rfl⟩
      simp only [] at hrun
      rw [← hV] at hrun
      have hR1 : RQL V g ((aq k nm d j ++ List.replicate (n - j) q0).set j ⟨st, k, nm, d⟩) := by rw [hV]; exact hR.four hq0 ⟨st, k, nm, d⟩
      have hj2 : j < (aq k nm d j ++ List.replicate (n - j) q0).length := (List.getElem?_eq_some_iff.1 hq0).1
      have z0 : V.cell? ⟨g, j * 4, none⟩ = some (.int .i64 st) := hR1.cell (j := j) (q := ⟨st, k, nm, d⟩) (k := 0) (by rw [List.getElem?_set_self hj2]) (by decide) rfl
      have f0 := hR1.free (j * 4)
      have hR2 := hR1.set (j := j) (q := ⟨st, k, nm, d⟩) (by rw [List.getElem?_set_self hj2]) 0 (by decide) (.int .i64 (j : Int)) ⟨(j : Int), k, nm, d⟩ rfl
      rw [List.set_set, aq_set hlt] at hR2
      have HE : Hid (RQL (V.setCell ⟨g, j * 4, none⟩ (.int .i64 (j : Int))) g (aq k nm d (j + 1) ++ List.replicate (n - (j + 1)) q0) ∧ (V.setCell ⟨g, j * 4, none⟩ (.int .i64 (j : Int))).heap[bx]? = some (.cells #[.int .i64 st, .int .i64 k, .string nm, .string d] 69 (0, 0)) ∧ Below w.heap.size w (V.setCell ⟨g, j * 4, none⟩ (.int .i64 (j : Int)))) := by
        have hG0 : Gs (fun i => i = g) wr V := by rw [hV]; exact Gs.cells _ _ _ (Gs.refl _ _) (.inl rfl)
        have hG : Gs (fun i => i = g) wr (V.setCell ⟨g, j * 4, none⟩ (.int .i64 (j : Int))) := hG0.set1 _ _
        have hgb := Hgb.out
        have hx := Hbx.out
        exact ⟨hR2, (hG.block bx (lt_of_block hb) (by omega)).trans hb, hG.below hB hB.size (fun i e => by omega)⟩
      clear hR hb hB hq0 hV hR1 hj2 hR2
      go_wp2_with (refine wpList_store_run rfl 69 _ _ rfl _ _ rfl rfl hrun ?_)
      exact ⟨⟨j + 1, by omega, by go_num, HE.out⟩, by simp [intOf]; omega⟩
    · obtain rfl : j = n := by omega
      have HE : Hid (RQL wr g (aq k nm d j) ∧ w.heap.size ≤ g ∧ Below w.heap.size w wr) := by
        refine ⟨by simpa using hR, ?_, hB⟩
        have hgb := Hgb.out
        have hx := Hbx.out
        omega
      clear hR hb hB
      go_wp2
      go_ret
      exact ⟨g, rfl, HE.out⟩
end
end Go.Proofs.Ytiecoplfiahpnaa

namespace Go.Proofs.Ytiecoplfiahpnaa
open Go.RowKit Go.Lib Go.Maps
theorem fe_c : FE 56 := FE.of Try.underlying56
theorem ent_of {f : FuncId} {fn : Func} {c : Code} (hf : Try.prog.funcs[f]? = some fn) (hname : (fn.name == "runtime.NumGoroutine") = false) (hb : fn.body = some c) : Ent f := fun args w => by
  have h1 : fn.name ≠ "runtime.NumGoroutine" := by simpa using hname
  simp [callFunc, hf, h1, hb]
section
variable {F : FuncId} {fi ca : Array Value} {w W : World} {b c1 : Nat} {v av : Value} {r p : Nat → Prop} {X : List (RR × Value)} {a : Option Addr} {n c : Nat} {Q : World → Prop}
set_option maxRecDepth 100000 in
set_option maxHeartbeats 3200000 in
theorem ask_yes {fn : Fn} (hn : 0 < n) (HA : Calls Try.prog 55 #[.pointer (some ⟨b, 0, none⟩), .slice a n c, .func fn fi ca] w fun e w' => e = .returned (.tuple #[]) ∧ Q w') :
    Calls Try.prog 46 #[.pointer (some ⟨b, 0, none⟩), .slice a n c, .func fn fi ca] w fun e w' => e = .returned (.tuple #[]) ∧ Q w' := by
  have HH := hide HA
  have h1 : (n : Int) > 0 := by omega
  clear HA
  go_enter Try.func46, Try.ntmps46
  go_wp2_with fail
  refine HH.out.mono ?_
  rintro e w1 ⟨rfl, hF⟩
  have HF := hide hF
  clear hF
  go_wp2
  go_end0
  exact ⟨rfl, HF.out⟩
set_option maxRecDepth 100000 in
set_option maxHeartbeats 3200000 in
theorem ask_no (hent : Ent F) (HA : Calls Try.prog F (fi.push (.slice none 0 0) ++ ca) w fun e w' => e = .returned (.tuple #[]) ∧ Q w') :
    Calls Try.prog 46 #[.pointer (some ⟨b, 0, none⟩), .slice none 0 0, .func (.func F) fi ca] w fun e w' => e = .returned (.tuple #[]) ∧ Q w' := by
  have HH := hide HA
  obtain ⟨g1, g2, g3, g4⟩ := fe79
  unfold Ent at hent
  clear HA
  go_enter Try.func46, Try.ntmps46
  go_wp2_with fail
  refine HH.out.mono ?_
  rintro e w1 ⟨rfl, hF⟩
  have HF := hide hF
  clear hF
  go_wp2
  go_end0
  exact ⟨rfl, HF.out⟩
set_option maxRecDepth 100000 in
theorem byCodes_any {fn : Fn} : Calls Try.prog 47 #[.func fn fi ca] w fun e w' => e = .returned (.func (.func 56) #[] #[.pointer (some ⟨w.heap.size, 0, none⟩)]) ∧ w' = w.alloc (.cells #[.func fn fi ca] 56) := by
  have hmf : ∀ (fn : Fn) (first cap : Array Value) (w : World), (Instr.makeFunc fn first cap).run Try.prog w = .ok (.func fn first cap) w := fun _ _ _ _ => rfl
  obtain ⟨g1, g2, g3, g4⟩ := fe_c
  go_enter Try.func47, Try.ntmps47
  go_wp2
  go_ret
  exact ⟨rfl, rfl⟩
set_option maxRecDepth 100000 in
set_option maxHeartbeats 3200000 in
theorem byCodes1_any (hent : Ent F) (hc : W.heap[c1]? = some (.cells #[.func (.func F) fi ca] 56 (0, 0))) (hL : LS x3 3 r W av X) (hS : ∀ x ∈ X, ∃ a n c, x.2 = .slice a n c) (hn : X.length ≤ 1000000) (hp : ¬ p c1)
    (HC : ∀ W1 cv, OW _root_.Go.Proofs.Ytiecoplfiahpnaa.c1 1 24 W.heap.size cv (X.map (·.1.c)) W1 → Below W.heap.size W W1 → Calls Try.prog F (fi.push cv ++ ca) W1 fun e w' => e = .returned (.tuple #[]) ∧ Gs p W1 w' ∧ Q w') :
    Calls Try.prog 56 #[av, .pointer (some ⟨c1, 0, none⟩)] W fun e w' => e = .returned (.tuple #[]) ∧ Gs p W w' ∧ Q w' := by
  have y1 : W.cell? ⟨c1, 0, none⟩ = some (.func (.func F) fi ca) := by simp [World.cell?, hc]
  have HT := hide (codesOf_any (w := W.drew) hL hS hn)
  have HE : Hid (∀ W1 cv, OW _root_.Go.Proofs.Ytiecoplfiahpnaa.c1 1 24 W.drew.heap.size cv (X.map (·.1.c)) W1 → Below W.drew.heap.size W.drew W1 → Calls Try.prog F (fi.push cv ++ ca) W1 fun e w' => e = .returned (.tuple #[]) ∧ w'.cell? ⟨c1, 0, none⟩ = some (.func (.func F) fi ca) ∧ Hid (Gs p W w' ∧ Q w')) := fun W1 cv hO hB => by
    have hB' : Below W.heap.size W W1 := ⟨hB.os, hB.tape, hB.output, hB.size, hB.block⟩
    refine (HC W1 cv hO hB').mono ?_
    rintro e w' ⟨rfl, hG, hQ⟩
    have hG' : Gs p W w' := (Gs.of_below _ hB').trans hG
    exact ⟨rfl, by simp [World.cell?, hG'.block c1 (lt_of_block hc) hp, hc], hG', hQ⟩
  have HK : Hid (∀ w1, Below W.drew.heap.size W.drew w1 → w1.cell? ⟨c1, 0, none⟩ = some (.func (.func F) fi ca)) := fun w1 hb => (hb.cell (p := ⟨c1, 0, none⟩) (lt_of_block hc)).trans y1
  unfold Ent at hent
  clear hc hL hS hn hp HC
  go_enter Try.func56, Try.ntmps56
  go_upto_region 0 with fail
  go_region_held3 (fun w' => w'.cell? ⟨c1, 0, none⟩ = some (.func (.func F) fi ca)) (first | assumption)
    (first | (go_at_call 29; refine HT.out.mono ?_; rintro e w1 ⟨cv, rfl, hT1, hB1⟩; have k1 := HK.out w1 hB1) | (refine (HE.out _ _ (by assumption) (by assumption)).mono ?_; rintro e w2 ⟨rfl, k2, hF⟩))
  all_goals (go_wp2; go_end0; exact ⟨rfl, hF.out⟩)
end
end Go.Proofs.Ytiecoplfiahpnaa

namespace Go.Proofs.Ytiecoplfiahpnaa
open Go.RowKit Go.Lib Go.Maps
section
variable {F : FuncId} {fi ca : Array Value} {b : Nat} {Fin : List RR → (Nat → Prop) → World → Prop} {N : Nat} {l rest : List QT} {A0 : List RR} {e m r r0 : Nat → Prop} {w w0 w2 : World} {v : Value} {nm : ByteArray}
/-- What is done with the codes. -/
def KC (F : FuncId) (fi ca : Array Value) (b : Nat) (Fin : List RR → (Nat → Prop) → World → Prop) (n : Nat) (rest : List QT) (A0 : List RR) (e m : Nat → Prop) (w0 : World) : Prop :=
  ∀ (W : World) (cv : Value) (A : List RR) (r : Nat → Prop), Sm e w0 W → JB W b true 0 0 ⟨#[]⟩ ⟨#[]⟩ .nilFunc 0 0 (.slice none 0 0) (.slice none 0 0) ((A0.length + n : Nat) : Int) → LS c1 1 r W cv (A.map (·.c)) → A.length = n → (resI (A0 ++ A)).length ≤ 1000000000000 → (∀ i, r i → w0.heap.size ≤ i ∧ i < W.heap.size) →
    Calls Try.prog F (fi.push cv ++ ca) W fun er w' => er = .returned (.tuple #[]) ∧ Gs (fun i => i = b ∨ m i) W w' ∧ RDY b (fun w2 => ∃ P', JJ b Fin rest (A0 ++ A) P' w2 ∧ Gs (fun i => i = b ∨ m i) W w2 ∧ ∀ i, P' i → i = b ∨ e i ∨ r i ∨ W.heap.size ≤ i) w'
theorem KO.bel (h : KO F fi ca b Fin N rest A0 e m w0) (hb : Below w0.heap.size w0 w) : KO F fi ca b Fin N rest A0 e m w := by
  intro W av X r hS hJ hL hN hX hI hsm hr
  have hs := hb.size
  exact h W av X r (((Sm.refl e w0).bel hb).trans hS) hJ hL hN hX hI hsm fun i hi => ⟨by have := (hr i hi).1; omega, (hr i hi).2⟩
theorem KO.more {e' : Nat → Prop} (h : KO F fi ca b Fin N rest A0 e m w0) (he : ∀ i, e i → e' i) : KO F fi ca b Fin N rest A0 e' m w0 := by
  intro W av X r hS hJ hL hN hX hI hsm hr
  refine (h W av X r (hS.mono he) hJ hL hN hX hI hsm hr).mono ?_
  rintro er w' ⟨rfl, hG, hR⟩
  refine ⟨rfl, hG, hR.mono ?_⟩
  rintro w2 ⟨P', h1, h2, h3⟩
  refine ⟨P', h1, h2, fun i hi => ?_⟩
  rcases h3 i hi with h | h | h | h
  · exact .inl h
  · exact .inr (.inl (he i h))
  · exact .inr (.inr (.inl h))
  · exact .inr (.inr (.inr h))
theorem ent_bc1 : Ent 56 := ent_of Try.func56 (by kernel_rfl) rfl
theorem ko_codes (hent : Ent F) (HK : KC F fi ca b Fin N rest A0 e m w) (hN : N ≤ 1000000) (hb : Below w.heap.size w w2) (heb : b < w.heap.size) (hme : ∀ i, m i → e i) (hel : ∀ i, e i → i < w.heap.size) :
    KO 56 #[] #[.pointer (some ⟨w2.heap.size, 0, none⟩)] b Fin N rest A0 (fun i => e i ∨ i = w2.heap.size) m (w2.alloc (.cells #[.func (.func F) fi ca] 56)) := by
  intro W av X r hS hJ hL hNm hX hI _ hr
  have hs := hb.size
  have hc : W.heap[w2.heap.size]? = some (.cells #[.func (.func F) fi ca] 56 (0, 0)) := (hS.2 w2.heap.size (.inr rfl) (by simp)).trans (heap_alloc_new w2 _)
  have hWs := hS.1
  have hb2 : Below w.heap.size w (w2.alloc (.cells #[.func (.func F) fi ca] 56)) := hb.alloc hs _
  have hSe : Sm e w W := ((Sm.refl e w).bel hb2).trans (hS.mono fun i hi => .inl hi)
  show Calls Try.prog 56 #[av, .pointer (some ⟨w2.heap.size, 0, none⟩)] W _
  refine byCodes1_any (p := fun i => i = b ∨ m i) hent hc hL (fun x hx => by obtain ⟨a, c, e⟩ := (hNm x hx).shp; exact ⟨a, _, c, e⟩) (by omega) ?_ ?_
  · rintro (h | h)
    · omega
    · have := hel _ (hme _ h); omega
  intro W1 cv hO hB
  have hOl := hO.lt
  have hBs := hB.size
  have e1 : X.map (·.1.c) = (X.map (·.1)).map (·.c) := by rw [List.map_map]; rfl
  refine (HK W1 cv (X.map (·.1)) (fun i => cv.ownBlock = some i) (hSe.bel hB) (hJ.bel hB) (by rw [← e1]; exact hO.ls c1_len fun i hi => hi) (by simpa using hX) hI (fun i hi => ⟨?_, (hOl i hi).2⟩)).mono ?_
  · have := (hOl i hi).1; simp at hWs; omega
  rintro er w' ⟨rfl, hG, hR⟩
  refine ⟨rfl, hG, hR.mono ?_⟩
  rintro w3 ⟨P', h1, h2, h3⟩
  refine ⟨P', h1, (Gs.of_below _ hB).trans h2, fun i hi => ?_⟩
  rcases h3 i hi with h | h | h | h
  · exact .inl h
  · exact .inr (.inl (.inl h))
  · exact .inr (.inr (.inr (hOl i h).1))
  · exact .inr (.inr (.inr (by omega)))
/-- What a call of fan leaves: the job asks l, and then what is left. -/
def PO (b : Nat) (Fin : List RR → (Nat → Prop) → World → Prop) (L : List QT) (A0 : List RR) (e p : Nat → Prop) (w w' : World) : Prop :=
  Gs p w w' ∧ RDY b (fun w2 => ∃ P', JJ b Fin L A0 P' w2 ∧ Gs p w w2 ∧ ∀ i, P' i → i = b ∨ e i ∨ w.heap.size ≤ i) w'
theorem PO.bel {p : Nat → Prop} {w1 w' : World} (h : PO b Fin l A0 e p w1 w') (hb : Below w.heap.size w w1) : PO b Fin l A0 e p w w' := by
  have hs := hb.size
  refine ⟨(Gs.of_below _ hb).trans h.1, h.2.mono ?_⟩
  rintro w2 ⟨P', h1, h2, h3⟩
  refine ⟨P', h1, (Gs.of_below _ hb).trans h2, fun i hi => ?_⟩
  rcases h3 i hi with h | h | h
  · exact .inl h
  · exact .inr (.inl h)
  · exact .inr (.inr (by omega))
theorem PO.less {p : Nat → Prop} {w' : World} {e' : Nat → Prop} (h : PO b Fin l A0 e' p w w') (he : ∀ i, e' i → e i ∨ w.heap.size ≤ i) : PO b Fin l A0 e p w w' := by
  refine ⟨h.1, h.2.mono ?_⟩
  rintro w2 ⟨P', h1, h2, h3⟩
  refine ⟨P', h1, h2, fun i hi => ?_⟩
  rcases h3 i hi with h | h | h
  · exact .inl h
  · rcases he i h with h | h
    · exact .inr (.inl h)
    · exact .inr (.inr h)
  · exact .inr (.inr h)
theorem PO.more {p p' : Nat → Prop} {w' : World} (h : PO b Fin l A0 e p w w') (hp : ∀ i, p i → p' i) : PO b Fin l A0 e p' w w' := by
  refine ⟨h.1.mono fun i _ hi => hp i hi, h.2.mono ?_⟩
  rintro w2 ⟨P', h1, h2, h3⟩
  exact ⟨P', h1, h2.mono fun i _ hi => hp i hi, h3⟩
/-- Requests that are asked, none too. -/
theorem asks (hent : Ent F) (hJ : JB w b true 0 0 ⟨#[]⟩ ⟨#[]⟩ .nilFunc 0 0 (.slice none 0 0) (.slice none 0 0) (A0.length : Int)) (hv : LS q4 4 r0 w v l) (hz : l = [] → v = .slice none 0 0) (hl : l.length ≤ 1000000) (hI0 : (resI A0).length ≤ 1000000000000) (HK : KO F fi ca b Fin l.length rest A0 e m w) (heb : ¬ e b) (hme : ∀ i, m i → e i) (hel : ∀ i, e i → i < w.heap.size) :
    Calls Try.prog 46 #[.pointer (some ⟨b, 0, none⟩), v, .func (.func F) fi ca] w fun er w' => er = .returned (.tuple #[]) ∧ PO b Fin (l ++ rest) A0 e (fun i => i = b ∨ m i) w w' := by
  rcases Nat.eq_zero_or_pos l.length with h0 | h0
  · have hl0 := List.length_eq_zero_iff.1 h0
    subst hl0
    rw [hz rfl]
    refine ask_no hent ?_
    refine (HK w (.slice none 0 0) [] (fun _ => False) (Sm.refl _ _) (by simpa using hJ) ⟨none, 0, rfl, fun _ => rfl, .inl rfl⟩ (fun x hx => by simp at hx) rfl (by rw [List.map_nil, List.append_nil]; exact hI0) (fun x hx => by simp at hx) (fun i hi => hi.elim)).mono ?_
    rintro er w' ⟨rfl, hG, hR⟩
    refine ⟨rfl, hG, hR.mono ?_⟩
    rintro w2 ⟨P', h1, h2, h3⟩
    rw [List.map_nil, List.append_nil] at h1
    refine ⟨P', h1, h2, fun i hi => ?_⟩
    rcases h3 i hi with h | h | h | h
    · exact .inl h
    · exact .inr (.inl h)
    · exact h.elim
    · exact .inr (.inr h)
  · obtain ⟨a, c, rfl⟩ := hv.shp
    refine ask_yes h0 ?_
    refine (all_jj (rest := rest) hent hJ hv h0 hl HK heb hme hel).mono ?_
    rintro er w' ⟨rfl, h1, h2⟩
    exact ⟨rfl, PO.more (p := fun i => i = b) ⟨h1, h2⟩ fun i hi => .inl hi⟩
/-- How many stores are asked. -/
def nst (n : Int) : Nat := if 1 ≤ n ∧ n ≤ 255 then n.toNat else 0
theorem nst_le (n : Int) : nst n ≤ 255 := by rw [nst]; split <;> omega
theorem nst_nat (n : Nat) (h1 : 1 ≤ n) (h2 : n ≤ 255) : nst (n : Int) = n := by rw [nst, if_pos ⟨by omega, by omega⟩]; omega
theorem nst_no (n : Int) (h : n < 1 ∨ 255 < n) : nst n = 0 := by rw [nst, if_neg (by omega)]
theorem toAll_any (n st k : Int) (d : ByteArray) : Calls Try.prog 45 #[.int .i64 n, .agg #[.int .i64 st, .int .i64 k, .string nm, .string d]] w fun e w' => ∃ v, e = .returned v ∧ LS q4 4 (fun i => w.heap.size ≤ i) w' v (aq k nm d (nst n)) ∧ (aq k nm d (nst n) = [] → v = .slice none 0 0) ∧ Below w.heap.size w w' := by
  by_cases h : 1 ≤ n ∧ n ≤ 255
  · obtain ⟨N, rfl⟩ : ∃ N : Nat, n = (N : Int) := ⟨n.toNat, by omega⟩
    refine (toAll_yes (n := N) (by omega) (by omega)).mono ?_
    rintro e w' ⟨g, rfl, hR, hg, hB⟩
    rw [nst_nat N (by omega) (by omega)]
    have := hR.gs (r := fun i => w.heap.size ≤ i) hg N
    rw [aq_len] at this
    exact ⟨_, rfl, this, fun e => by have := aq_len k nm d N; rw [e] at this; simp at this; omega, hB⟩
  · refine (toAll_no (by omega)).mono ?_
    rintro e w' ⟨rfl, hB⟩
    rw [nst_no n (by omega)]
    exact ⟨_, rfl, ⟨none, 0, rfl, fun _ => rfl, .inl rfl⟩, fun _ => rfl, hB⟩
set_option maxRecDepth 100000 in
set_option maxHeartbeats 3200000 in
theorem gets_any (hent : Ent F) (hJ : JB w b true 0 0 ⟨#[]⟩ ⟨#[]⟩ .nilFunc 0 0 (.slice none 0 0) (.slice none 0 0) (A0.length : Int)) (n : Int) (hI0 : (resI A0).length ≤ 1000000000000) (HK : KO F fi ca b Fin (nst n) rest A0 e m w) (heb : ¬ e b) (hme : ∀ i, m i → e i) (hel : ∀ i, e i → i < w.heap.size) :
    Calls Try.prog 27 #[.pointer (some ⟨b, 0, none⟩), .int .i64 n, .string nm, .func (.func F) fi ca] w fun er w' => er = .returned (.tuple #[]) ∧ PO b Fin (aq 2 nm ⟨#[]⟩ (nst n) ++ rest) A0 e (fun i => i = b ∨ m i) w w' := by
  have HT := hide (toAll_any (nm := nm) (w := w) n 0 2 ⟨#[]⟩)
  have HA : Hid (∀ w1 v, LS q4 4 (fun i => w.heap.size ≤ i) w1 v (aq 2 nm ⟨#[]⟩ (nst n)) → (aq 2 nm ⟨#[]⟩ (nst n) = [] → v = .slice none 0 0) → Below w.heap.size w w1 → Calls Try.prog 46 #[.pointer (some ⟨b, 0, none⟩), v, .func (.func F) fi ca] w1 fun er w' => er = .returned (.tuple #[]) ∧ PO b Fin (aq 2 nm ⟨#[]⟩ (nst n) ++ rest) A0 e (fun i => i = b ∨ m i) w w') := fun w1 v h1 h2 hB => by
    have hs := hB.size
    have hnl := nst_le n
    refine (asks (rest := rest) hent (hJ.bel hB) h1 h2 (by rw [aq_len]; omega) hI0 (by rw [aq_len]; exact HK.bel hB) heb hme fun i hi => by have := hel i hi; omega).mono ?_
    rintro er w' ⟨rfl, hP⟩
    exact ⟨rfl, hP.bel hB⟩
  clear HK hJ hent hI0 heb hme hel
  go_enter Try.func27, Try.ntmps27
  go_wp2_with fail
  refine HT.out.mono ?_
  rintro er w1 ⟨v, rfl, h1, h2, hB⟩
  have HA1 := hide (HA.out w1 v h1 h2 hB)
  clear h1 h2 hB
  go_wp2_with fail
  refine HA1.out.mono ?_
  rintro er w2 ⟨rfl, hP⟩
  have HP := hide hP
  clear hP
  go_wp2
  go_end0
  exact ⟨rfl, HP.out⟩
/-- The requests are asked, the codes are gone on with. -/
theorem asksC (hent : Ent F) (hJ : JB w b true 0 0 ⟨#[]⟩ ⟨#[]⟩ .nilFunc 0 0 (.slice none 0 0) (.slice none 0 0) (A0.length : Int)) (hB : Below w.heap.size w w2) (hv : LS q4 4 r0 w2 v l) (hz : l = [] → v = .slice none 0 0) (hl : l.length ≤ 1000000) (hI0 : (resI A0).length ≤ 1000000000000) (HK : KC F fi ca b Fin l.length rest A0 e m w) (heb : ¬ e b) (hme : ∀ i, m i → e i) (hel : ∀ i, e i → i < w.heap.size) :
    Calls Try.prog 46 #[.pointer (some ⟨b, 0, none⟩), v, .func (.func 56) #[] #[.pointer (some ⟨w2.heap.size, 0, none⟩)]] (w2.alloc (.cells #[.func (.func F) fi ca] 56)) fun er w' => er = .returned (.tuple #[]) ∧ PO b Fin (l ++ rest) A0 e (fun i => i = b ∨ m i) w w' := by
  have hs := hB.size
  have hbl := hJ.lt
  have hB2 : Below w2.heap.size w2 (w2.alloc (.cells #[.func (.func F) fi ca] 56)) := (Below.refl _ _).alloc (Nat.le_refl _) _
  refine (asks (rest := rest) ent_bc1 ((hJ.bel hB).bel hB2) (hv.bel hB2) hz hl hI0 (ko_codes hent HK hl hB hbl hme hel) ?_ (fun i hi => .inl (hme i hi)) ?_).mono ?_
  · rintro (h | h)
    · exact heb h
    · omega
  · rintro i (h | h)
    · have := hel i h; simp; omega
    · simp; omega
  · rintro er w' ⟨rfl, hP⟩
    refine ⟨rfl, (hP.bel (hB.trans (hB2.mono hs))).less ?_⟩
    rintro i (h | h)
    · exact .inl h
    · exact .inr (by omega)
set_option maxRecDepth 100000 in
set_option maxHeartbeats 3200000 in
theorem dels_any (hent : Ent F) (hJ : JB w b true 0 0 ⟨#[]⟩ ⟨#[]⟩ .nilFunc 0 0 (.slice none 0 0) (.slice none 0 0) (A0.length : Int)) (n : Int) (hI0 : (resI A0).length ≤ 1000000000000) (HK : KC F fi ca b Fin (nst n) rest A0 e m w) (heb : ¬ e b) (hme : ∀ i, m i → e i) (hel : ∀ i, e i → i < w.heap.size) :
    Calls Try.prog 34 #[.pointer (some ⟨b, 0, none⟩), .int .i64 n, .string nm, .func (.func F) fi ca] w fun er w' => er = .returned (.tuple #[]) ∧ PO b Fin (aq 4 nm ⟨#[]⟩ (nst n) ++ rest) A0 e (fun i => i = b ∨ m i) w w' := by
  have HT := hide (toAll_any (nm := nm) (w := w) n 0 4 ⟨#[]⟩)
  have HA : Hid (∀ w1 v, LS q4 4 (fun i => w.heap.size ≤ i) w1 v (aq 4 nm ⟨#[]⟩ (nst n)) → (aq 4 nm ⟨#[]⟩ (nst n) = [] → v = .slice none 0 0) → Below w.heap.size w w1 → Calls Try.prog 46 #[.pointer (some ⟨b, 0, none⟩), v, .func (.func 56) #[] #[.pointer (some ⟨w1.heap.size, 0, none⟩)]] (w1.alloc (.cells #[.func (.func F) fi ca] 56)) fun er w' => er = .returned (.tuple #[]) ∧ PO b Fin (aq 4 nm ⟨#[]⟩ (nst n) ++ rest) A0 e (fun i => i = b ∨ m i) w w') := fun w1 v h1 h2 hB => by
    have hnl := nst_le n
    exact asksC (rest := rest) hent hJ hB h1 h2 (by rw [aq_len]; omega) hI0 (by rw [aq_len]; exact HK) heb hme hel
  have HBC := hide (fun w => byCodes_any (fn := .func F) (fi := fi) (ca := ca) (w := w))
  clear HK hJ hent hI0 heb hme hel
  go_enter Try.func34, Try.ntmps34
  go_wp2_with fail
  refine HT.out.mono ?_
  rintro er w1 ⟨v, rfl, h1, h2, hB⟩
  have HA1 := hide (HA.out w1 v h1 h2 hB)
  clear h1 h2 hB
  go_wp2_with fail
  refine (HBC.out w1).mono ?_
  rintro er w3 ⟨rfl, rfl⟩
  go_wp2_with fail
  refine HA1.out.mono ?_
  rintro er w2 ⟨rfl, hP⟩
  have HP := hide hP
  clear hP
  go_wp2
  go_end0
  exact ⟨rfl, HP.out⟩
end
end Go.Proofs.Ytiecoplfiahpnaa

namespace Go.Proofs.Ytiecoplfiahpnaa
open Go.RowKit Go.Lib Go.Maps
/-- The requests of a put, none if so many may not be asked. -/
def pqn (nm : ByteArray) (ds : List ByteArray) : List QT := if 1 ≤ ds.length ∧ ds.length ≤ 255 then pq nm ds else []
theorem pqn_len (nm : ByteArray) (ds : List ByteArray) : (pqn nm ds).length = nst (ds.length : Int) := by
  rw [pqn]
  split
  · rename_i h; rw [pq_len, nst_nat _ h.1 h.2]
  · rename_i h; rw [nst_no _ (by omega)]; rfl
theorem aq_get {k : Int} {nm d : ByteArray} {n j : Nat} (h : j < n) : (aq k nm d n)[j]? = some ⟨(j : Int), k, nm, d⟩ := by
  rw [aq, List.getElem?_map, List.getElem?_range h]; rfl
theorem pq_at {nm : ByteArray} {ds : List ByteArray} {N j : Nat} (hN : N = ds.length) (h : j < N) : (pq nm (ds.take j) ++ (aq 1 nm ⟨#[]⟩ N).drop j)[j]? = some ⟨(j : Int), 1, nm, ⟨#[]⟩⟩ := by
  have hl : (pq nm (ds.take j)).length = j := by rw [pq_len, List.length_take]; omega
  rw [List.getElem?_append_right (by omega), hl, Nat.sub_self, List.getElem?_drop, Nat.add_zero, aq_get h]
theorem pq_set {nm d : ByteArray} {ds : List ByteArray} {N j : Nat} (hN : N = ds.length) (h : j < N) (hd : ds[j]? = some d) : (pq nm (ds.take j) ++ (aq 1 nm ⟨#[]⟩ N).drop j).set j ⟨(j : Int), 1, nm, d⟩ = pq nm (ds.take (j + 1)) ++ (aq 1 nm ⟨#[]⟩ N).drop (j + 1) := by
  have hl : (pq nm (ds.take j)).length = j := by rw [pq_len, List.length_take]; omega
  have e : (aq 1 nm ⟨#[]⟩ N).drop j = ⟨(j : Int), 1, nm, ⟨#[]⟩⟩ :: (aq 1 nm ⟨#[]⟩ N).drop (j + 1) := drop_at (aq_get h)
  have hl2 : (ds.take j).length = j := by rw [List.length_take]; omega
  rw [List.set_append_right _ _ (by omega), hl, Nat.sub_self, e, List.set_cons_zero, take_snoc_at hd, pq_snoc, hl2, List.append_assoc]
  rfl
section
variable {F : FuncId} {fi ca : Array Value} {b : Nat} {Fin : List RR → (Nat → Prop) → World → Prop} {rest : List QT} {A0 : List RR} {e m r r0 : Nat → Prop} {w w0 w2 : World} {dv : Value} {nm : ByteArray} {ds : List ByteArray}
set_option maxRecDepth 100000 in
set_option maxHeartbeats 3200000 in
theorem puts_no (hent : Ent F) (hJ : JB w b true 0 0 ⟨#[]⟩ ⟨#[]⟩ .nilFunc 0 0 (.slice none 0 0) (.slice none 0 0) (A0.length : Int)) (hd : LS t1 1 r w dv ds) (hbad : ¬ (1 ≤ ds.length ∧ ds.length ≤ 255)) (hI0 : (resI A0).length ≤ 1000000000000) (HK : KC F fi ca b Fin 0 rest A0 e m w) (heb : ¬ e b) (hme : ∀ i, m i → e i) (hel : ∀ i, e i → i < w.heap.size) :
    Calls Try.prog 22 #[.pointer (some ⟨b, 0, none⟩), .string nm, dv, .func (.func F) fi ca] w fun er w' => er = .returned (.tuple #[]) ∧ PO b Fin rest A0 e (fun i => i = b ∨ m i) w w' := by
  obtain ⟨da, dc, rfl⟩ := hd.shp
  have HT := hide (toAll_no (nm := nm) (w := w) (n := (ds.length : Int)) (st := 0) (k := 1) (d := ⟨#[]⟩) (by omega))
  have HA : Hid (∀ w1, Below w.heap.size w w1 → Calls Try.prog 46 #[.pointer (some ⟨b, 0, none⟩), .slice none 0 0, .func (.func 56) #[] #[.pointer (some ⟨w1.heap.size, 0, none⟩)]] (w1.alloc (.cells #[.func (.func F) fi ca] 56)) fun er w' => er = .returned (.tuple #[]) ∧ PO b Fin rest A0 e (fun i => i = b ∨ m i) w w') := fun w1 hB => by
    exact asksC (rest := rest) (l := []) (r0 := fun _ => True) hent hJ hB ⟨none, 0, rfl, fun _ => rfl, .inl rfl⟩ (fun _ => rfl) (by simp) hI0 HK heb hme hel
  have HBC := hide (fun w => byCodes_any (fn := .func F) (fi := fi) (ca := ca) (w := w))
  generalize ds.length = N at *
  clear HK hJ hent hI0 heb hme hel hd hbad
  go_enter Try.func22, Try.ntmps22
  go_wp2_with fail
  refine HT.out.mono ?_
  rintro er w1 ⟨rfl, hB⟩
  have HA1 := hide (HA.out w1 hB)
  clear hB
  go_wp2
  go_loopw [17] (fun i wr => i = .int .i64 0 ∧ wr = w1) (fun _ _ => 0)
  case atStart => exact ⟨rfl, rfl⟩
  case round =>
    obtain ⟨rfl, rfl⟩ := hrel
    go_wp2_with fail
    refine (HBC.out wr).mono ?_
    rintro er w3 ⟨rfl, rfl⟩
    go_wp2_with fail
    refine HA1.out.mono ?_
    rintro er w2 ⟨rfl, hP⟩
    have HP := hide hP
    clear hP
    go_wp2
    go_end0
    exact ⟨rfl, HP.out⟩
set_option maxRecDepth 100000 in
set_option maxHeartbeats 3200000 in
theorem puts_yes (hent : Ent F) (hJ : JB w b true 0 0 ⟨#[]⟩ ⟨#[]⟩ .nilFunc 0 0 (.slice none 0 0) (.slice none 0 0) (A0.length : Int)) (hd : LS t1 1 r w dv ds) (h1 : 1 ≤ ds.length) (h2 : ds.length ≤ 255) (hI0 : (resI A0).length ≤ 1000000000000) (HK : KC F fi ca b Fin ds.length rest A0 e m w) (heb : ¬ e b) (hme : ∀ i, m i → e i) (hel : ∀ i, e i → i < w.heap.size) :
    Calls Try.prog 22 #[.pointer (some ⟨b, 0, none⟩), .string nm, dv, .func (.func F) fi ca] w fun er w' => er = .returned (.tuple #[]) ∧ PO b Fin (pq nm ds ++ rest) A0 e (fun i => i = b ∨ m i) w w' := by
  have HC : Hid (∀ j d, ds[j]? = some d → ∀ wr, Below w.heap.size w wr → ∃ g o c, dv = .slice (some ⟨g, o, none⟩) ds.length c ∧ wr.cell? ⟨g, o + j, none⟩ = some (.string d)) := fun j d hj wr hb => by
    obtain ⟨a, c, e⟩ := (hd.bel hb).shp
    have h3 := hd.bel hb
    rw [e] at h3
    obtain ⟨g, o, ha, _, h4⟩ := h3.at1 hj rfl
    exact ⟨g, o, c, by rw [e, ha], h4⟩
  have HT := hide (toAll_yes (nm := nm) (w := w) (n := ds.length) (st := 0) (k := 1) (d := ⟨#[]⟩) h1 h2)
  have HA : Hid (∀ w1 g, RQL w1 g (pq nm ds) → Below w.heap.size w w1 → Calls Try.prog 46 #[.pointer (some ⟨b, 0, none⟩), .slice (some ⟨g, 0, none⟩) ds.length ds.length, .func (.func 56) #[] #[.pointer (some ⟨w1.heap.size, 0, none⟩)]] (w1.alloc (.cells #[.func (.func F) fi ca] 56)) fun er w' => er = .returned (.tuple #[]) ∧ PO b Fin (pq nm ds ++ rest) A0 e (fun i => i = b ∨ m i) w w') := fun w1 g hR hB => by
    have h3 := hR.gs (r := fun _ => True) trivial ds.length
    rw [pq_len] at h3
    exact asksC (rest := rest) hent hJ hB h3 (fun e => by have := pq_len nm ds; rw [e] at this; simp at this; omega) (by rw [pq_len]; omega) hI0 (by rw [pq_len]; exact HK) heb hme hel
  have HBC := hide (fun w => byCodes_any (fn := .func F) (fi := fi) (ca := ca) (w := w))
  obtain ⟨da, dc, hdv⟩ := hd.shp
  subst hdv
  obtain ⟨N, hN⟩ : ∃ N, N = ds.length := ⟨_, rfl⟩
  rw [← hN] at h1 h2 HA HC HT ⊢
  have HN := hide hN
  have Hh := hide (And.intro h1 h2)
  clear HK hJ hent hI0 heb hme hel hd hN h1 h2
  go_enter Try.func22, Try.ntmps22
  go_wp2_with fail
  refine HT.out.mono ?_
  rintro er w1 ⟨g, rfl, hR1, hg, hB1⟩
  have H0 : Hid (RQL w1 g (pq nm (ds.take 0) ++ (aq 1 nm ⟨#[]⟩ N).drop 0) ∧ Below w.heap.size w w1) := ⟨by simpa [pq] using hR1, hB1⟩
  have Hg := hide hg
  clear hR1 hg hB1
  go_wp2
  go_loopw [17] (fun i wr => ∃ j : Nat, j ≤ N ∧ i = .int .i64 j ∧ RQL wr g (pq nm (ds.take j) ++ (aq 1 nm ⟨#[]⟩ N).drop j) ∧ Below w.heap.size w wr) (fun i _ => N - (intOf i).toNat)
  case atStart => exact ⟨0, Nat.zero_le _, rfl, H0.out⟩
  case round =>
    obtain ⟨j, hj, rfl, hR, hB⟩ := hrel
    have h2 := Hh.out.2
    by_cases hlt : j < N
    · have b1 : (j : Int) < (N : Int) := by omega
      have b0 : (0 : Int) ≤ (j : Int) := by omega
      obtain ⟨d, hd⟩ : ∃ d, ds[j]? = some d := ⟨_, List.getElem?_eq_getElem (by rw [← HN.out]; exact hlt)⟩
      obtain ⟨dg, d0, dc', hdv, z0⟩ := HC.out j d hd wr hB
      cases hdv
      have hq := pq_at (nm := nm) HN.out hlt
      have z3 : wr.cell? ⟨g, j * 4 + 3, none⟩ = some (.string ⟨#[]⟩) := hR.cell hq (by decide) rfl
      have f3 := hR.free (j * 4 + 3)
      have hR2 := hR.set hq 3 (by decide) (.string d) ⟨(j : Int), 1, nm, d⟩ rfl
      rw [pq_set HN.out hlt hd] at hR2
      have HE : Hid (RQL (wr.setCell ⟨g, j * 4 + 3, none⟩ (.string d)) g (pq nm (ds.take (j + 1)) ++ (aq 1 nm ⟨#[]⟩ N).drop (j + 1)) ∧ Below w.heap.size w (wr.setCell ⟨g, j * 4 + 3, none⟩ (.string d))) := by
        have hgl := Hg.out
        exact ⟨hR2, ((Gs.refl (fun i => i = g) wr).set1 _ _).below hB hB.size (fun i e => by omega)⟩
      clear hR hB hq hR2 hd
      go_wp2
      exact ⟨⟨j + 1, by omega, by go_num, HE.out⟩, by simp [intOf]; omega⟩
    · obtain rfl : j = N := by omega
      have e1 : ds.take j = ds := List.take_of_length_le (by have := HN.out; omega)
      have e2 : (aq 1 nm ⟨#[]⟩ j).drop j = [] := List.drop_eq_nil_of_le (by rw [aq_len]; omega)
      rw [e1, e2, List.append_nil] at hR
      have HA1 := hide (HA.out wr g hR hB)
      clear hR hB e1 e2
      go_wp2_with fail
      refine (HBC.out wr).mono ?_
      rintro er w3 ⟨rfl, rfl⟩
      go_wp2_with fail
      refine HA1.out.mono ?_
      rintro er w2 ⟨rfl, hP⟩
      have HP := hide hP
      clear hP
      go_wp2
      go_end0
      exact ⟨rfl, HP.out⟩
theorem puts_any (hent : Ent F) (hJ : JB w b true 0 0 ⟨#[]⟩ ⟨#[]⟩ .nilFunc 0 0 (.slice none 0 0) (.slice none 0 0) (A0.length : Int)) (hd : LS t1 1 r w dv ds) (hI0 : (resI A0).length ≤ 1000000000000) (HK : KC F fi ca b Fin (pqn nm ds).length rest A0 e m w) (heb : ¬ e b) (hme : ∀ i, m i → e i) (hel : ∀ i, e i → i < w.heap.size) :
    Calls Try.prog 22 #[.pointer (some ⟨b, 0, none⟩), .string nm, dv, .func (.func F) fi ca] w fun er w' => er = .returned (.tuple #[]) ∧ PO b Fin (pqn nm ds ++ rest) A0 e (fun i => i = b ∨ m i) w w' := by
  rw [pqn_len] at HK
  rw [pqn]
  by_cases h : 1 ≤ ds.length ∧ ds.length ≤ 255
  · rw [if_pos h]
    rw [nst_nat _ h.1 h.2] at HK
    exact puts_yes hent hJ hd h.1 h.2 hI0 HK heb hme hel
  · rw [if_neg h]
    rw [nst_no _ (by omega)] at HK
    exact puts_no hent hJ hd h hI0 HK heb hme hel
end
end Go.Proofs.Ytiecoplfiahpnaa

namespace Go.Proofs.Ytiecoplfiahpnaa
open Go.RowKit Go.Lib Go.Maps
/-- A job that is over, with a result. -/
def FinR (b : Nat) (C N : List RR → Int) (I T : List RR → List ByteArray) (A : List RR) (P : Nat → Prop) (w : World) : Prop :=
  ∃ ids tx, JB w b false 0 0 ⟨#[]⟩ ⟨#[]⟩ .nilFunc (C A) (N A) ids tx (A.length : Int) ∧ LS t1 1 (fun i => P i ∧ i ≠ b) w ids (I A) ∧ LS t1 1 (fun i => P i ∧ i ≠ b) w tx (T A)
theorem LS.nl {α : Type} {f : α → List Value} {k : Nat} (r : Nat → Prop) (w : World) : LS f k r w (.slice none 0 0) [] := ⟨none, 0, rfl, fun _ => rfl, .inl rfl⟩
section
variable {F : FuncId} {fi ca : Array Value} {b i1 : Nat} {C N : List RR → Int} {I T : List RR → List ByteArray} {A : List RR} {e m r r' p : Nat → Prop} {w w' W : World} {cv dv : Value} {st k c NN s : Int} {n d nm : ByteArray} {go ids tx : Value} {cs ks : List Int} {ds : List ByteArray}
theorem fkR (b : Nat) (C N : List RR → Int) (I T : List RR → List ByteArray) : FK b (FinR b C N I T) := by
  refine ⟨?_, ?_⟩
  · rintro A P p w w' ⟨ids, tx, hJ, h1, h2⟩ hg hb hp
    exact ⟨ids, tx, hJ.gs hg (hp b hb), h1.gs hg fun i hi => hp i hi.1, h2.gs hg fun i hi => hp i hi.1⟩
  · rintro A P w ⟨ids, tx, hJ, _⟩
    exact ⟨_, _, ids, tx, hJ⟩
theorem fin_rdy (hJ : JB w' b false 0 0 ⟨#[]⟩ ⟨#[]⟩ .nilFunc (C A) (N A) ids tx (A.length : Int)) (h1 : TS W.heap.size ids (I A) w') (h2 : TS W.heap.size tx (T A) w') (hG : Gs (fun i => i = b) W w') (hb : b < W.heap.size) :
    Gs (fun i => i = b ∨ m i) W w' ∧ RDY b (fun w2 => ∃ P', JJ b (FinR b C N I T) [] A P' w2 ∧ Gs (fun i => i = b ∨ m i) W w2 ∧ ∀ i, P' i → i = b ∨ e i ∨ r i ∨ W.heap.size ≤ i) w' := by
  refine ⟨hG.mono fun i _ hi => .inl hi, .inr ⟨_, _, _, _, _, _, _, _, _, _, hJ, fun w2 hJ2 hG2 => ?_⟩⟩
  have hs := hG.size
  have hs2 := hG2.size
  have k1 := h1.lt
  have k2 := h2.lt
  refine ⟨fun i => i = b ∨ W.heap.size ≤ i ∧ i < w2.heap.size, ⟨.inl rfl, ?_, ids, tx, hJ2, ?_, ?_⟩, (hG.trans hG2).mono fun i _ hi => .inl hi, ?_⟩
  · rintro i (h | h)
    · omega
    · exact h.2
  · exact (h1.kb fun i hi => hG2.block i (k1 i hi).2 (by have := (k1 i hi).1; omega)).ls fun i hi => ⟨.inr ⟨(k1 i hi).1, by have := (k1 i hi).2; omega⟩, by have := (k1 i hi).1; omega⟩
  · exact (h2.kb fun i hi => hG2.block i (k2 i hi).2 (by have := (k2 i hi).1; omega)).ls fun i hi => ⟨.inr ⟨(k2 i hi).1, by have := (k2 i hi).2; omega⟩, by have := (k2 i hi).1; omega⟩
  · rintro i (h | h)
    · exact .inl h
    · exact .inr (.inr (.inr h.1))
set_option maxRecDepth 100000 in
set_option maxHeartbeats 3200000 in
theorem start_any (hent : Ent F) {Q : World → Prop}
    (HC : ∀ V, JB V w.heap.size true 0 0 ⟨#[]⟩ ⟨#[]⟩ .nilFunc 0 0 (.slice none 0 0) (.slice none 0 0) 0 → Below w.heap.size w V → Calls Try.prog F (fi.push (.pointer (some ⟨w.heap.size, 0, none⟩)) ++ ca) V fun e w' => e = .returned (.tuple #[]) ∧ RDY w.heap.size Q w') :
    Calls Try.prog 42 #[.func (.func F) fi ca] w fun e w' => e = .returned (.pointer (some ⟨w.heap.size, 0, none⟩)) ∧ Q w' := by
  obtain ⟨U, hU⟩ : ∃ U, U = w.alloc (.cells #[.bool true, .int .i64 0, .int .i64 0, .string ⟨#[]⟩, .string ⟨#[]⟩, .nilFunc, .int .i64 0, .string ⟨#[]⟩, .int .i64 0, .slice none 0 0, .slice none 0 0, .slice none 0 0, .slice none 0 0, .int .i64 0] 74) := ⟨_, rfl⟩
  have hJ : JB U w.heap.size true 0 0 ⟨#[]⟩ ⟨#[]⟩ .nilFunc 0 0 (.slice none 0 0) (.slice none 0 0) 0 := by rw [hU]; exact heap_alloc_new w _
  have HN := hide (HC U hJ (by rw [hU]; exact (Below.refl _ _).alloc (Nat.le_refl _) _))
  have HU := hide hU
  obtain ⟨g1, g2, g3, g4⟩ := fe72
  unfold Ent at hent
  clear hJ hU HC
  go_enter Try.func42, Try.ntmps42
  go_upto_region 2 with fail
  rw [← HU.out]
  go_wp2_with fail
  refine HN.out.mono ?_
  rintro e w1 ⟨rfl, hR⟩
  have HS := hide (settle_rdy hR)
  clear hR
  go_wp2_with fail
  refine HS.out.mono ?_
  rintro e w2 ⟨rfl, hQ⟩
  have HQ := hide hQ
  clear hQ
  go_wp2
  go_ret
  exact ⟨rfl, HQ.out⟩
set_option maxRecDepth 100000 in
set_option maxHeartbeats 3200000 in
theorem start1_yes {x1 x2 : Nat} {nn : Int} (hent : Ent F) (h1 : w.heap[x1]? = some (.cells #[.int .i64 nn] 3 (0, 0))) (h2 : w.heap[x2]? = some (.cells #[.func (.func F) fi ca] 57 (0, 0))) (hn : 1 ≤ nn) (hn2 : nn ≤ 255) {Q : World → Prop}
    (HC : Calls Try.prog F (fi.push (.pointer (some ⟨b, 0, none⟩)) ++ ca) w fun e w' => e = .returned (.tuple #[]) ∧ Q w') :
    Calls Try.prog 43 #[.pointer (some ⟨b, 0, none⟩), .pointer (some ⟨x1, 0, none⟩), .pointer (some ⟨x2, 0, none⟩)] w fun e w' => e = .returned (.tuple #[]) ∧ Q w' := by
  have y1 : w.cell? ⟨x1, 0, none⟩ = some (.int .i64 nn) := by simp [World.cell?, h1]
  have y2 : w.cell? ⟨x2, 0, none⟩ = some (.func (.func F) fi ca) := by simp [World.cell?, h2]
  have HM := hide (mayBe_yes (w := w) hn hn2)
  have HH := hide HC
  unfold Ent at hent
  clear h1 h2 hn hn2 HC
  go_enter Try.func43, Try.ntmps43
  go_wp2_with (go_at_call 44; refine HM.out.mono ?_; rintro e w1 ⟨rfl, rfl⟩)
  refine HH.out.mono ?_
  rintro e w2 ⟨rfl, hQ⟩
  have HQ := hide hQ
  clear hQ
  go_wp2
  go_end0
  exact ⟨rfl, HQ.out⟩
set_option maxRecDepth 100000 in
set_option maxHeartbeats 3200000 in
theorem start1_no {x1 x2 : Nat} {nn : Int} (hJ : JB w b true st k n d go c NN ids tx s) (h1 : w.heap[x1]? = some (.cells #[.int .i64 nn] 3 (0, 0))) (hn : nn < 1 ∨ 255 < nn) :
    Calls Try.prog 43 #[.pointer (some ⟨b, 0, none⟩), .pointer (some ⟨x1, 0, none⟩), .pointer (some ⟨x2, 0, none⟩)] w fun e w' => e = .returned (.tuple #[]) ∧ ∃ ids' tx', JB w' b false 0 0 ⟨#[]⟩ ⟨#[]⟩ .nilFunc 1 0 ids' tx' s ∧ TS w.heap.size ids' [] w' ∧ TS w.heap.size tx' [] w' ∧ Gs (fun i => i = b) w w' := by
  have y1 : w.cell? ⟨x1, 0, none⟩ = some (.int .i64 nn) := by simp [World.cell?, h1]
  have HM := hide (mayBe_no (w := w) hn)
  have HH := hide (end_on (r := fun _ => True) (c := 1) (N := 0) hJ (LS.nl _ _) (LS.nl _ _) (by simp) (by simp))
  clear h1 hn hJ
  go_enter Try.func43, Try.ntmps43
  go_wp2_with (go_at_call 44; refine HM.out.mono ?_; rintro e w1 ⟨rfl, rfl⟩)
  refine HH.out.mono ?_
  rintro e w2 ⟨rfl, hQ⟩
  have HQ := hide hQ
  clear hQ
  go_wp2
  exact bodyPost_ret (v := .tuple #[]) (by simp [results, Try.results43, go_sem]) rfl ⟨rfl, HQ.out⟩
theorem ent_s1 : Ent 43 := ent_of Try.func43 (by kernel_rfl) rfl
/-- A job is made. -/
def MK (Fin : Nat → List RR → (Nat → Prop) → World → Prop) (L : List QT) (w w' : World) (er : Ending) : Prop := ∃ b P, er = .returned (.pointer (some ⟨b, 0, none⟩)) ∧ JJ b (Fin b) L [] P w' ∧ Below w.heap.size w w' ∧ ∀ i, P i → w.heap.size ≤ i
set_option maxRecDepth 100000 in
set_option maxHeartbeats 3200000 in
theorem fstart_yes {nn : Int} {L : List QT} {Fin : Nat → List RR → (Nat → Prop) → World → Prop} (hent : Ent F) (hn : 1 ≤ nn) (hn2 : nn ≤ 255)
    (HC : ∀ b V, JB V b true 0 0 ⟨#[]⟩ ⟨#[]⟩ .nilFunc 0 0 (.slice none 0 0) (.slice none 0 0) 0 → Below w.heap.size w V → w.heap.size ≤ b → Calls Try.prog F (fi.push (.pointer (some ⟨b, 0, none⟩)) ++ ca) V fun e w' => e = .returned (.tuple #[]) ∧ PO b (Fin b) L [] (fun i => w.heap.size ≤ i) (fun i => i = b) V w') :
    Calls Try.prog 20 #[.int .i64 nn, .func (.func F) fi ca] w fun e w' => MK Fin L w w' e := by
  obtain ⟨U, hU⟩ : ∃ U, U = (w.alloc (.cells #[.int .i64 nn] 3)).alloc (.cells #[.func (.func F) fi ca] 57) := ⟨_, rfl⟩
  obtain ⟨X, hX⟩ : ∃ X, X = w.heap.size := ⟨_, rfl⟩
  have hBU : Below w.heap.size w U := by rw [hU]; exact ((Below.refl _ _).alloc (Nat.le_refl _) _).alloc (by simp) _
  have h1 : U.heap[X]? = some (.cells #[.int .i64 nn] 3 (0, 0)) := by rw [hU, hX, Below.heap_alloc _ _ _ (by simp)]; exact heap_alloc_new w _
  have h2 : U.heap[X + 1]? = some (.cells #[.func (.func F) fi ca] 57 (0, 0)) := by
    rw [hU, hX]
    have := heap_alloc_new (w.alloc (.cells #[.int .i64 nn] 3)) (.cells #[.func (.func F) fi ca] 57 (0, 0))
    simpa using this
  have hsz : w.heap.size ≤ U.heap.size := hBU.size
  have HN := hide (start_any (w := U) (F := 43) (fi := #[]) (ca := #[.pointer (some ⟨X, 0, none⟩), .pointer (some ⟨X + 1, 0, none⟩)]) ent_s1 (Q := fun w2 => MK Fin L w w2 (.returned (.pointer (some ⟨U.heap.size, 0, none⟩)))) (by
    intro V hJV hBV
    show Calls Try.prog 43 #[.pointer (some ⟨U.heap.size, 0, none⟩), .pointer (some ⟨X, 0, none⟩), .pointer (some ⟨X + 1, 0, none⟩)] V _
    refine start1_yes hent ((hBV.block X (lt_of_block h1)).trans h1) ((hBV.block (X + 1) (lt_of_block h2)).trans h2) hn hn2 ?_
    have hBV2 : Below w.heap.size w V := hBU.trans (hBV.mono hsz)
    refine (HC U.heap.size V hJV hBV2 hsz).mono ?_
    rintro e w' ⟨rfl, hP⟩
    refine ⟨rfl, hP.2.mono ?_⟩
    rintro w2 ⟨P', hJJ, hG, hP'⟩
    refine ⟨_, P', rfl, hJJ, hG.below hBV2 hBV2.size (fun i e => by omega), fun i hi => ?_⟩
    have := hBV2.size
    rcases hP' i hi with h | h | h <;> omega))
  have HU := hide hU
  have HX := hide hX
  have hmf : ∀ (fn : Fn) (first cap : Array Value) (w : World), (Instr.makeFunc fn first cap).run Try.prog w = .ok (.func fn first cap) w := fun _ _ _ _ => rfl
  clear h1 h2 hBU hsz hU hX HC hn hn2 hent
  go_enter Try.func20, Try.ntmps20
  go_upto_region 1 with fail
  rw [← HU.out, ← HX.out]
  go_wp2_with fail
  refine HN.out.mono ?_
  rintro e w7 ⟨rfl, hQ⟩
  have HQ2 := hide hQ
  clear hQ
  go_wp2
  go_ret
  exact HQ2.out
set_option maxRecDepth 100000 in
set_option maxHeartbeats 3200000 in
theorem fstart_no {nn : Int} {C N : List RR → Int} {I T : List RR → List ByteArray} {fn : Fn} (hn : nn < 1 ∨ 255 < nn) (hC : C [] = 1) (hN : N [] = 0) (hI : I [] = []) (hT : T [] = []) :
    Calls Try.prog 20 #[.int .i64 nn, .func fn fi ca] w fun e w' => MK (fun b => FinR b C N I T) [] w w' e := by
  obtain ⟨U, hU⟩ : ∃ U, U = (w.alloc (.cells #[.int .i64 nn] 3)).alloc (.cells #[.func fn fi ca] 57) := ⟨_, rfl⟩
  obtain ⟨X, hX⟩ : ∃ X, X = w.heap.size := ⟨_, rfl⟩
  have hBU : Below w.heap.size w U := by rw [hU]; exact ((Below.refl _ _).alloc (Nat.le_refl _) _).alloc (by simp) _
  have h1 : U.heap[X]? = some (.cells #[.int .i64 nn] 3 (0, 0)) := by rw [hU, hX, Below.heap_alloc _ _ _ (by simp)]; exact heap_alloc_new w _
  have hsz : w.heap.size ≤ U.heap.size := hBU.size
  have HN := hide (start_any (w := U) (F := 43) (fi := #[]) (ca := #[.pointer (some ⟨X, 0, none⟩), .pointer (some ⟨X + 1, 0, none⟩)]) ent_s1 (Q := fun w2 => MK (fun b => FinR b C N I T) [] w w2 (.returned (.pointer (some ⟨U.heap.size, 0, none⟩)))) (by
    intro V hJV hBV
    show Calls Try.prog 43 #[.pointer (some ⟨U.heap.size, 0, none⟩), .pointer (some ⟨X, 0, none⟩), .pointer (some ⟨X + 1, 0, none⟩)] V _
    have hBV2 : Below w.heap.size w V := hBU.trans (hBV.mono hsz)
    refine (start1_no hJV ((hBV.block X (lt_of_block h1)).trans h1) hn).mono ?_
    rintro e w' ⟨rfl, ids', tx', hJ', hT1, hT2, hG⟩
    have hfin := fin_rdy (C := C) (N := N) (I := I) (T := T) (A := []) (e := fun _ => False) (r := fun _ => False) (m := fun _ => False) (by rw [hC, hN]; exact hJ') (by rw [hI]; exact hT1) (by rw [hT]; exact hT2) hG hJV.lt
    refine ⟨rfl, hfin.2.mono ?_⟩
    rintro w2 ⟨P', hJJ, hG, hP'⟩
    have := hBV2.size
    refine ⟨_, P', rfl, hJJ, hG.below hBV2 hBV2.size (fun i e => by rcases e with e | e; omega; exact e.elim), fun i hi => ?_⟩
    rcases hP' i hi with h | h | h | h
    · omega
    · exact h.elim
    · exact h.elim
    · omega))
  have HU := hide hU
  have HX := hide hX
  have hmf : ∀ (fn : Fn) (first cap : Array Value) (w : World), (Instr.makeFunc fn first cap).run Try.prog w = .ok (.func fn first cap) w := fun _ _ _ _ => rfl
  clear h1 hBU hsz hU hX hn hC hN hI hT
  go_enter Try.func20, Try.ntmps20
  go_upto_region 1 with fail
  rw [← HU.out, ← HX.out]
  go_wp2_with fail
  refine HN.out.mono ?_
  rintro e w7 ⟨rfl, hQ⟩
  have HQ2 := hide hQ
  clear hQ
  go_wp2
  go_ret
  exact HQ2.out
end
end Go.Proofs.Ytiecoplfiahpnaa

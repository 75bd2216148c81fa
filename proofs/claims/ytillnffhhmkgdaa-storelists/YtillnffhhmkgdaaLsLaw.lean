/-
  StoreLists: the walk.
-/
import Derived.Test.YtillnffhhmkgdaaLsKit
namespace Go.Proofs.Ytillnffhhmkgdaa
open Go.RowKit Go.Lib Go.Maps

/-- What holds as objects are put. -/
structure LI (W wr : World) (b mb j c : Nat) (L : List OB) (bg : ByteArray) : Prop where
  st : ST W wr b mb ⟨1048576, 0, j, false, L⟩
  len : L.length ≤ j
  le : (namesL L bg).length ≤ c
  some : 0 < c → 0 < (namesL L bg).length
  cj : c ≤ j
theorem LI.put {W wr w' : World} {b mb j c : Nat} {L : List OB} {bg n : ByteArray} (h : LI W wr b mb j c L bg) (hs : ST W w' b mb (doS ⟨1048576, 0, j, false, L⟩ 1 n ⟨#[]⟩)) :
    ∃ L', LI W w' b mb (j + 1) (if pcode n ⟨#[]⟩ L 1048576 = 0 ∧ begins bg n = true then c + 1 else c) L' bg := by
  have e : doS ⟨1048576, 0, j, false, L⟩ 1 n ⟨#[]⟩ = ⟨1048576, 0, ((j + 1 : Nat) : Int), false, putL n ⟨#[]⟩ L 1048576⟩ := by simp [doS]
  rw [e] at hs
  refine ⟨_, hs, ?_, ?_, ?_, ?_⟩
  · rw [putL]; have := len_lay L n ⟨#[]⟩; have := h.len; split <;> omega
  · have h9 := names_lay L n ⟨#[]⟩ bg
    have := h.le
    by_cases h0 : pcode n ⟨#[]⟩ L 1048576 = 0
    · rw [putL, if_pos h0]
      by_cases h1 : begins bg n = true
      · rw [if_pos ⟨h0, h1⟩]; rw [if_pos h1] at h9; omega
      · rw [if_neg (fun x => h1 x.2)]; rw [if_neg h1] at h9; omega
    · rw [putL, if_neg h0, if_neg (fun x => h0 x.1)]; omega
  · have h2 := names_lay L n ⟨#[]⟩ bg
    have h3 := h.some
    by_cases h0 : pcode n ⟨#[]⟩ L 1048576 = 0
    · rw [putL, if_pos h0]
      by_cases h1 : begins bg n = true
      · intro _; exact h2.2.2 h1
      · rw [if_neg (fun x => h1 x.2)]; intro hc; have := h3 hc; omega
    · rw [putL, if_neg h0, if_neg (fun x => h0 x.1)]; exact h3
  · have := h.cj; split <;> omega

/-- What is kept behind the two lists: the store, both answers. -/
structure LK (W wx : World) (b mb : Nat) (s : SS) (r1 r2 : Nat) (v1 v2 : Value) (l1 l2 : List ByteArray) : Prop where
  st : ST W wx b mb s
  k1 : wx.heap[r1]? = some (.cells #[.int .i64 0, .string ⟨#[]⟩, v1] 48 (0, 0))
  k2 : wx.heap[r2]? = some (.cells #[.int .i64 0, .string ⟨#[]⟩, v2] 48 (0, 0))
  t1 : TR wx v1 l1
  t2 : TR wx v2 l2
section
variable {W wx w' : World} {b mb : Nat} {s : SS} {r1 r2 : Nat} {v1 v2 : Value} {l1 l2 : List ByteArray}
theorem LK.bel (h : LK W wx b mb s r1 r2 v1 v2 l1 l2) (k : Below wx.heap.size wx w') : LK W w' b mb s r1 r2 v1 v2 l1 l2 :=
  ⟨h.st.bel k, (k.block _ (lt_of_block h.k1)).trans h.k1, (k.block _ (lt_of_block h.k2)).trans h.k2, h.t1.bel k, h.t2.bel k⟩
theorem LK.drew (h : LK W wx b mb s r1 r2 v1 v2 l1 l2) : LK W wx.drew b mb s r1 r2 v1 v2 l1 l2 := ⟨h.st.drew, h.k1, h.k2, h.t1, h.t2⟩
theorem LK.c10 (h : LK W wx b mb s r1 r2 v1 v2 l1 l2) : wx.cell? ⟨r1, 0, none⟩ = some (.int .i64 0) := by simp [World.cell?, h.k1]
theorem LK.c12 (h : LK W wx b mb s r1 r2 v1 v2 l1 l2) : wx.cell? ⟨r1, 2, none⟩ = some v1 := by simp [World.cell?, h.k1]
theorem LK.c22 (h : LK W wx b mb s r1 r2 v1 v2 l1 l2) : wx.cell? ⟨r2, 2, none⟩ = some v2 := by simp [World.cell?, h.k2]
end

set_option maxRecDepth 100000 in
set_option maxHeartbeats 6400000 in
theorem lists_walk {w : World} {v : Value} {l : List ByteArray} (hT : TR w v l) (hls : ∀ x ∈ l, x.size ≤ 9223372036854775807) (hl : l.length ≤ 9223372036854775807) (bg : ByteArray) (hbg : bg.size ≤ 9223372036854775807) :
    Calls Try.prog 4 #[v, .string bg] w fun e w' => e = .returned (.bool true) ∧ Below w.heap.size w w' := by
  obtain ⟨va, vc, rfl, hT⟩ := hT
  obtain ⟨N, hN⟩ : ∃ N, N = l.length := ⟨_, rfl⟩
  rw [← hN]
  have HN := hide hN
  have HT := hide hT
  have HLS := hide hls
  have hNl : N ≤ 9223372036854775807 := by omega
  have HN0 : Hid _ := hide (new_ok 1048576 w (by decide) (by decide))
  clear hT hN hls hl
  go_enter Try.func4, Try.ntmps4
  go_wp2_with fail
  refine HN0.out.mono ?_
  rintro e w1 ⟨rfl, hP1, hb1⟩
  have HS1 : Hid (ST w w1 (w.heap.size + 1) w.heap.size ⟨1048576, 0, 0, false, []⟩) := ⟨hP1, by omega, by omega, hb1⟩
  clear hP1 hb1 HN0
  have HW : Hid _ := hide (works_any w1)
  go_wp2_with fail
  refine HW.out.mono ?_
  rintro e w2 ⟨rfl, hb2⟩
  have HS2 : Hid (LI w w2 (w.heap.size + 1) w.heap.size 0 0 [] bg) := ⟨HS1.out.bel hb2, by simp, by simp [namesL], fun h => by omega, by omega⟩
  clear hb2 HS1 HW
  go_upto_block 0 with fail
  go_cut [7] (fun th wx => ∃ (c j : Nat) (L : List OB), th = .int .i64 c ∧ j ≤ 40 ∧ LI w wx (w.heap.size + 1) w.heap.size j c L bg)
  case first =>
    go_wp2
    go_loopw [7, 8] (fun th i wr => ∃ (j c : Nat) (L : List OB), j ≤ N ∧ j ≤ 40 ∧ i = .int .i64 j ∧ th = .int .i64 c ∧ LI w wr (w.heap.size + 1) w.heap.size j c L bg) (fun _ i _ => 41 - (intOf i).toNat)
    case atStart => exact ⟨0, 0, [], Nat.zero_le _, by omega, rfl, rfl, HS2.out⟩
    case round =>
      obtain ⟨j, c, L, hj, hj4, rfl, rfl, hI⟩ := hrel
      have HI := hide hI
      clear hI HS2
      by_cases hlt : j < N ∧ j < 40
      · obtain ⟨hlt, hlt4⟩ := hlt
        have b1 : (j : Int) < (N : Int) := by omega
        have b0 : (0 : Int) ≤ (j : Int) := by omega
        have b2 : (j : Int) < 40 := by omega
        have hjl : j < l.length := by rw [← HN.out]; omega
        obtain ⟨x, hx⟩ : ∃ x, l[j]? = some x := ⟨_, List.getElem?_eq_getElem hjl⟩
        have hxs := HLS.out x (List.mem_of_getElem? hx)
        obtain ⟨g, o, rfl, hg, hC⟩ := HT.out.resolve_left (by intro e; rw [e] at hx; simp at hx)
        have y1 := (HI.out.st.be.cell (p := ⟨g, o + j, none⟩) hg).trans (hC j x hx)
        have HD : Hid _ := hide (st_do HI.out.st 0 1 x ⟨#[]⟩ hxs (by decide) (by have := HI.out.len; show L.length ≤ _; omega) (by show (0 : Int) ≤ (j : Int); omega) (by show (j : Int) ≤ _; omega) (by show (0 : Int) ≤ 1048576; decide))
        have hR : doR ⟨1048576, 0, j, false, L⟩ 1 x ⟨#[]⟩ = ⟨pcode x ⟨#[]⟩ L 1048576, ⟨#[]⟩, []⟩ := by simp [doR]
        rw [hR] at HD
        have HCX := hide (hC j x hx)
        clear hC hx hR
        go_wp2_with fail
        refine HD.out.mono ?_
        rintro e w3 ⟨a3, c3, rfl, hT3, hS3, hG3⟩
        obtain ⟨L', hI'⟩ := HI.out.put hS3
        have y3 := (hS3.be.cell (p := ⟨g, o + j, none⟩) hg).trans HCX.out
        have hal : Below w3.heap.size w3 (w3.alloc (.cells #[.int .i64 (pcode x ⟨#[]⟩ L 1048576), .string ⟨#[]⟩, .slice a3 0 c3] 48)) := (Below.refl _ _).alloc (Nat.le_refl _) _
        have y4 := (((hS3.bel hal).be).cell (p := ⟨g, o + j, none⟩) hg).trans HCX.out
        have HI' : Hid (LI w (w3.alloc (.cells #[.int .i64 (pcode x ⟨#[]⟩ L 1048576), .string ⟨#[]⟩, .slice a3 0 c3] 48)) (w.heap.size + 1) w.heap.size (j + 1) (if pcode x ⟨#[]⟩ L 1048576 = 0 ∧ begins bg x = true then c + 1 else c) L' bg) := ⟨hI'.st.bel hal, hI'.len, hI'.le, hI'.some, hI'.cj⟩
        have hcj := HI.out.cj
        clear hT3 hS3 hG3 hI' hal y1 y3 HD HI
        generalize pcode x ⟨#[]⟩ L 1048576 = C at *
        by_cases hC0 : C = 0
        · subst hC0
          by_cases h1 : (bg.size : Int) ≤ (x.size : Int)
          · have h0 : (0 : Int) ≤ (bg.size : Int) := by omega
            by_cases h2 : x.extract 0 bg.size = bg
            · have ht : ((x.extract 0 bg.size).toList == bg.toList) = true := by rw [test_eq, decide_eq_true h2]
              have hE : begins bg x = true := by rw [begins, decide_eq_true (by omega), decide_eq_true h2]; rfl
              rw [if_pos ⟨rfl, hE⟩] at HI'
              clear hE
              go_wp2
              exact ⟨⟨j + 1, c + 1, L', by omega, by omega, by go_num, by go_num, HI'.out⟩, by simp [intOf]; omega⟩
            · have ht : ((x.extract 0 bg.size).toList == bg.toList) = false := by rw [test_eq, decide_eq_false h2]
              have ht2 : ¬ (x.extract 0 bg.size).toList = bg.toList := by simpa using ht
              have hE : ¬ begins bg x = true := by rw [begins, decide_eq_false h2]; simp
              rw [if_neg (fun z => hE z.2)] at HI'
              clear hE
              go_wp2
              exact ⟨⟨j + 1, c, L', by omega, by omega, by go_num, rfl, HI'.out⟩, by simp [intOf]; omega⟩
          · have hE : ¬ begins bg x = true := by rw [begins, decide_eq_false (by omega)]; simp
            rw [if_neg (fun z => hE z.2)] at HI'
            clear hE
            go_wp2
            exact ⟨⟨j + 1, c, L', by omega, by omega, by go_num, rfl, HI'.out⟩, by simp [intOf]; omega⟩
        · rw [if_neg (fun z => hC0 z.1)] at HI'
          go_wp2
          exact ⟨⟨j + 1, c, L', by omega, by omega, by go_num, rfl, HI'.out⟩, by simp [intOf]; omega⟩
      · by_cases hlt2 : j < N
        · obtain rfl : j = 40 := by omega
          have b1 : ((40 : Nat) : Int) < (N : Int) := by omega
          go_wp2
          go_meet
          case rel => exact ⟨c, 40, L, rfl, by omega, HI.out⟩
        · have b1 : ¬ (j : Int) < (N : Int) := by omega
          go_wp2
          go_meet
          case rel => exact ⟨c, j, L, rfl, hj4, HI.out⟩
  case rest =>
    obtain ⟨c, j, L, rfl, hj40, hI⟩ := hcut
    have HI := hide hI
    have hlL := hI.len
    have hcj := hI.cj
    have hR1 : doR ⟨1048576, 0, j, false, L⟩ 3 bg ⟨#[]⟩ = ⟨0, ⟨#[]⟩, namesL L bg⟩ := by simp [doR]
    have hS1 : doS ⟨1048576, 0, j, false, L⟩ 3 bg ⟨#[]⟩ = ⟨1048576, 0, (j : Int) + 1, false, L⟩ := by simp [doS]
    have HD1 : Hid _ := hide (st_do hI.st 0 3 bg ⟨#[]⟩ hbg (by decide) (by show L.length ≤ _; omega) (by show (0 : Int) ≤ (j : Int); omega) (by show (j : Int) ≤ _; omega) (by show (0 : Int) ≤ 1048576; decide))
    rw [hR1, hS1] at HD1
    clear hI hR1 hS1 HS2
    go_wp2_with fail
    refine HD1.out.mono ?_
    rintro e w3 ⟨a3, c3, rfl, hT3, hS3, hG3⟩
    obtain ⟨K, hK⟩ : ∃ K, K = (namesL L bg).length := ⟨_, rfl⟩
    have HK := hide hK
    dsimp only at hT3 ⊢
    rw [← hK] at hT3 ⊢
    obtain ⟨U3, hU3⟩ : ∃ U3, U3 = w3.alloc (.cells #[.int .i64 0, .string ⟨#[]⟩, .slice a3 K c3] 48) := ⟨_, rfl⟩
    have hal3 : Below w3.heap.size w3 U3 := by rw [hU3]; exact (Below.refl _ _).alloc (Nat.le_refl _) _
    have k3 : U3.heap[w3.heap.size]? = some (.cells #[.int .i64 0, .string ⟨#[]⟩, .slice a3 K c3] 48 (0, 0)) := by rw [hU3]; exact heap_alloc_new _ _
    have hS3 := hS3.bel hal3
    have HT3 := hide (hT3.keep hal3)
    have HBC : Hid (w.heap.size + 1 < wc.heap.size ∧ w.heap.size < wc.heap.size ∧ wc.heap.size ≤ w3.heap.size) := ⟨PS.lt HI.out.st.px, PS.mlt HI.out.st.px, hG3.size⟩
    have HK3 := hide k3
    have HS3z : Hid (w3.heap.size < U3.heap.size) := by show _ < _; rw [hU3]; simp
    have hR2 : doR ⟨1048576, 0, (j : Int) + 1, false, L⟩ 3 ⟨#[]⟩ ⟨#[]⟩ = ⟨0, ⟨#[]⟩, namesL L ⟨#[]⟩⟩ := by simp [doR]
    have hS2 : doS ⟨1048576, 0, (j : Int) + 1, false, L⟩ 3 ⟨#[]⟩ ⟨#[]⟩ = ⟨1048576, 0, (j : Int) + 1 + 1, false, L⟩ := by simp [doS]
    have HD2 : Hid _ := hide (st_do hS3 0 3 ⟨#[]⟩ ⟨#[]⟩ (by decide) (by decide) (by show L.length ≤ _; omega) (by show (0 : Int) ≤ (j : Int) + 1; omega) (by show (j : Int) + 1 ≤ _; omega) (by show (0 : Int) ≤ 1048576; decide))
    rw [hR2, hS2] at HD2
    have HU3 := hide hU3
    clear hal3 hU3 hR2 hS2 hG3 HD1 hK k3 hT3 hS3
    go_upto_region 12 with fail
    rw [← HU3.out]
    go_wp2_with fail
    refine HD2.out.mono ?_
    rintro e w4 ⟨a4, c4, rfl, hT4, hS4, hG4⟩
    obtain ⟨M, hM⟩ : ∃ M, M = (namesL L ⟨#[]⟩).length := ⟨_, rfl⟩
    dsimp only at hT4 ⊢
    rw [← hM] at hT4 ⊢
    have HM := hide hM
    obtain ⟨U4, hU4⟩ : ∃ U4, U4 = w4.alloc (.cells #[.int .i64 0, .string ⟨#[]⟩, .slice a4 M c4] 48) := ⟨_, rfl⟩
    have hal4 : Below w4.heap.size w4 U4 := by rw [hU4]; exact (Below.refl _ _).alloc (Nat.le_refl _) _
    have hbc := HBC.out
    have hu3 := HS3z.out
    have HLK : Hid (LK w U4 (w.heap.size + 1) w.heap.size ⟨1048576, 0, (j : Int) + 1 + 1, false, L⟩ w3.heap.size w4.heap.size (.slice a3 K c3) (.slice a4 M c4) (namesL L bg) (namesL L ⟨#[]⟩)) := by
      refine ⟨hS4.bel hal4, ?_, by rw [hU4]; exact heap_alloc_new _ _, ?_, hT4.tr.bel hal4⟩
      · rw [hal4.block _ (Nat.lt_of_lt_of_le hu3 hG4.size), hG4.block _ hu3 (by rintro (e | e) <;> omega)]
        exact HK3.out
      · exact (HT3.out.gs hG4 (two_less hbc.1 hbc.2.1)).tr.bel hal4
    have hKn : K ≤ c := by rw [HK.out]; exact HI.out.le
    have HKs : Hid (0 < c → 0 < K) := by show 0 < c → 0 < K; rw [HK.out]; exact HI.out.some
    have hMl : M ≤ 40 := by rw [hM]; exact Nat.le_trans (names_len _ _) (by omega)
    have HMl : Hid ((namesL L ⟨#[]⟩).length ≤ 1000000000) := by show _ ≤ _; rw [← hM]; omega
    have HRIS := hide (PS.ris hS4.px)
    have HU4 := hide hU4
    obtain ⟨r1, hr1⟩ : ∃ r1, r1 = w3.heap.size := ⟨_, rfl⟩
    obtain ⟨r2, hr2⟩ : ∃ r2, r2 = w4.heap.size := ⟨_, rfl⟩
    rw [← hr1, ← hr2] at HLK
    rw [← hr1]
    clear hT4 hS4 hG4 hal4 hU4 hbc hu3 HT3 HBC HS3z HK3 HD2 hM HI hr1
    go_upto_region 13 with fail
    rw [← HU4.out]
    rw [← hr2]
    clear hr2
    obtain ⟨s, hs⟩ : ∃ s : SS, s = ⟨1048576, 0, (j : Int) + 1 + 1, false, L⟩ := ⟨_, rfl⟩
    have hsl : s.L = L := by rw [hs]
    rw [← hs] at HLK
    have HSL := hide hsl
    clear hs hsl
    have HNM : Hid (∀ w1, Hid (LK w w1 (w.heap.size + 1) w.heap.size s r1 r2 (.slice a3 K c3) (.slice a4 M c4) (namesL L bg) (namesL L ⟨#[]⟩)) → Calls Try.prog 15 #[.pointer (some ⟨w.heap.size + 1, 0, none⟩)] w1 fun e w' => ∃ v, e = .returned v ∧ Hid (TR w' v (namesL L ⟨#[]⟩)) ∧ Hid (LK w w' (w.heap.size + 1) w.heap.size s r1 r2 (.slice a3 K c3) (.slice a4 M c4) (namesL L bg) (namesL L ⟨#[]⟩)) ∧ w'.cell? ⟨r1, 0, none⟩ = some (.int .i64 0) ∧ w'.cell? ⟨r1, 2, none⟩ = some (.slice a3 K c3) ∧ w'.cell? ⟨r2, 2, none⟩ = some (.slice a4 M c4)) := fun w1 h => by
      refine (names_any h.out.st.ps (by rw [HSL.out]; omega)).mono ?_
      rintro e w' ⟨v, rfl, hT, hb⟩
      rw [HSL.out] at hT
      have h' := h.out.bel hb
      exact ⟨v, rfl, hT.tr, h', h'.c10, h'.c12, h'.c22⟩
    have HSM : Hid (∀ w1 v u, u = .slice a4 M c4 → Hid (TR w1 v (namesL L ⟨#[]⟩)) → Hid (LK w w1 (w.heap.size + 1) w.heap.size s r1 r2 (.slice a3 K c3) (.slice a4 M c4) (namesL L bg) (namesL L ⟨#[]⟩)) → Calls Try.prog 14 #[u, v] w1 fun e w' => e = .returned (.bool true) ∧ Hid (LK w w' (w.heap.size + 1) w.heap.size s r1 r2 (.slice a3 K c3) (.slice a4 M c4) (namesL L bg) (namesL L ⟨#[]⟩)) ∧ w'.cell? ⟨r1, 0, none⟩ = some (.int .i64 0) ∧ w'.cell? ⟨r1, 2, none⟩ = some (.slice a3 K c3) ∧ w'.cell? ⟨r2, 2, none⟩ = some (.slice a4 M c4)) := fun w1 v u hu hv h => by
      subst hu
      refine (sameTexts_eq h.out.t2 hv.out HMl.out).mono ?_
      rintro e w' ⟨rfl, hb⟩
      have h' := h.out.bel hb
      exact ⟨rfl, h', h'.c10, h'.c12, h'.c22⟩
    have K1 : Hid (LK w U4.drew (w.heap.size + 1) w.heap.size s r1 r2 (.slice a3 K c3) (.slice a4 M c4) (namesL L bg) (namesL L ⟨#[]⟩)) := HLK.out.drew
    have q1 := K1.out.c10
    have q2 := K1.out.c12
    have q3 := K1.out.c22
    have hKc : ¬ (c : Int) < (K : Int) := by omega
    have hKd : decide (c < K) = false := decide_eq_false (by omega)
    go_region_held3 (fun w' => Hid (LK w w' (w.heap.size + 1) w.heap.size s r1 r2 (.slice a3 K c3) (.slice a4 M c4) (namesL L bg) (namesL L ⟨#[]⟩)) ∧ w'.cell? ⟨r1, 0, none⟩ = some (.int .i64 0) ∧ w'.cell? ⟨r1, 2, none⟩ = some (.slice a3 K c3) ∧ w'.cell? ⟨r2, 2, none⟩ = some (.slice a4 M c4)) (first | assumption | exact ⟨by assumption, by assumption, by assumption, by assumption⟩ | exact ⟨K1, q1, q2, q3⟩)
      (first | (go_at_call 15; refine (HNM.out _ (by first | assumption | exact K1)).mono ?_; rintro e w5 ⟨v5, rfl, h51, h52, h53, h54, h55⟩) | (go_at_call 14; refine (HSM.out _ _ _ (by with_reducible rfl) (by assumption) (by assumption)).mono ?_; rintro e w6 ⟨rfl, h62, h63, h64, h65⟩))
    have HK6 := hide h62
    have HKR : Hid (∀ (i : Nat) (x : ByteArray), (namesL L bg)[i]? = some x → ∃ g o, a3 = some ⟨g, o, none⟩ ∧ ∀ w', LK w w' (w.heap.size + 1) w.heap.size s r1 r2 (.slice a3 K c3) (.slice a4 M c4) (namesL L bg) (namesL L ⟨#[]⟩) → ∀ (k : Nat) (y : ByteArray), (namesL L bg)[k]? = some y → w'.cell? ⟨g, o + k, none⟩ = some (.string y)) := by
      intro i x hx
      obtain ⟨_, _, e0, h0⟩ := h62.out.t1
      obtain ⟨g, o, ea, _, _⟩ := h0.resolve_left (by intro e; rw [e] at hx; simp at hx)
      simp only [Value.slice.injEq] at e0
      refine ⟨g, o, by rw [e0.1, ea], fun w' h' k y hy => ?_⟩
      obtain ⟨_, _, e0', h0'⟩ := h'.t1
      obtain ⟨g', o', ea', _, hC⟩ := h0'.resolve_left (by intro e; rw [e] at hx; simp at hx)
      simp only [Value.slice.injEq] at e0'
      have : (some (⟨g, o, none⟩ : Addr)) = some ⟨g', o', none⟩ := by rw [← ea, ← e0.1, e0'.1, ea']
      simp only [Option.some.injEq, Addr.mk.injEq] at this
      rw [this.1, this.2.1]
      exact hC k y hy
    clear h51 h52 h53 h54 h55 h62 h63 h65 K1 q1 q2 q3 HNM HSM HLK
    go_wp2
    clear h64
    go_loopw [101] (fun i wr => ∃ k : Nat, k ≤ K ∧ i = .int .i64 k ∧ LK w wr (w.heap.size + 1) w.heap.size s r1 r2 (.slice a3 K c3) (.slice a4 M c4) (namesL L bg) (namesL L ⟨#[]⟩)) (fun i _ => K - (intOf i).toNat)
    case atStart => exact ⟨0, Nat.zero_le _, rfl, HK6.out⟩
    case round =>
      obtain ⟨k, hk, rfl, hLK⟩ := hrel
      have HLK := hide hLK
      have y2 := hLK.c12
      clear hLK HK6
      by_cases hlt : k < K
      · have b1 : (k : Int) < (K : Int) := by omega
        have b0 : (0 : Int) ≤ (k : Int) := by omega
        obtain ⟨x, hx⟩ : ∃ x, (namesL L bg)[k]? = some x := ⟨_, List.getElem?_eq_getElem (by rw [← HK.out]; exact hlt)⟩
        obtain ⟨g, o, rfl, hC⟩ := HKR.out k x hx
        have y1 := hC wr HLK.out k x hx
        obtain ⟨hbx, hth⟩ := names_mem (List.mem_of_getElem? hx)
        rw [begins, Bool.and_eq_true, decide_eq_true_eq, decide_eq_true_eq] at hbx
        obtain ⟨hb1, hb2⟩ := hbx
        have h1 : ¬ (x.size : Int) < (bg.size : Int) := by omega
        have h1' : (bg.size : Int) ≤ (x.size : Int) := by omega
        have h1'' : (0 : Int) ≤ (bg.size : Int) := by omega
        have ht : ((x.extract 0 bg.size).toList == bg.toList) = true := by rw [test_eq, decide_eq_true hb2]
        have HTH := hide hth
        have hxm : x.size ≤ maxLen := by
          cases hq : thr L x with
          | none => rw [hq] at hth; cases hth
          | some d => have := thr_small (PS.small HLK.out.st.px) (by rw [HSL.out]; exact hq); unfold maxLen; omega
        have HG : Hid _ := hide (pget_any HLK.out.st.ps x hxm)
        rw [HSL.out, hth] at HG
        generalize (thr L x).getD ⟨#[]⟩ = dd at *
        by_cases hk0 : k = 0
        · subst hk0
          have HX := hide hx
          have y1' : wr.cell? ⟨g, o, none⟩ = some (.string x) := by simpa using y1
          clear hx hC hth hb2 hxm y1
          go_wp2_with fail
          refine HG.out.mono ?_
          rintro e w7 ⟨rfl, hb7⟩
          have HF := hide (HLK.out.bel hb7)
          clear hb7
          go_wp2
          exact ⟨⟨1, by omega, by go_num, HF.out⟩, by simp [intOf]; omega⟩
        · obtain ⟨k', rfl⟩ : ∃ k', k = k' + 1 := ⟨k - 1, by omega⟩
          obtain ⟨y, hy⟩ : ∃ y, (namesL L bg)[k']? = some y := ⟨_, List.getElem?_eq_getElem (by rw [← HK.out]; omega)⟩
          have y3 := hC wr HLK.out k' y hy
          have hs := less_fact (bl_asymm (names_at HRIS.out hy hx))
          have hs2 : (x.toList == y.toList) = false := by rw [test_eq, decide_eq_false (bl_ne (names_at HRIS.out hy hx)).symm]
          have hs3 : ¬ x.toList = y.toList := by simpa using hs2
          have b3 : ((k' + 1 : Nat) : Int) - 1 = (k' : Int) := by omega
          have b4 : (0 : Int) ≤ (k' : Int) := by omega
          have b5 : (k' : Int) < (K : Int) := by omega
          have b6 : (0 : Int) < ((k' + 1 : Nat) : Int) := by omega
          have b7 : IntKind.i64.wrap (((k' + 1 : Nat) : Int) - 1) = (k' : Int) := by rw [b3]; simp [IntKind.wrap_i64]; omega
          clear hx hC hth hb2 hxm hy
          obtain ⟨k1, hk1⟩ : ∃ k1, k1 = k' + 1 := ⟨_, rfl⟩
          rw [← hk1] at b0 b1 b3 b6 b7 hlt hk y1 ⊢
          have HK1 := hide hk1
          clear hk1 hk0
          go_wp2_with fail
          refine HG.out.mono ?_
          rintro e w7 ⟨rfl, hb7⟩
          have HF := hide (HLK.out.bel hb7)
          clear hb7
          go_wp2
          exact ⟨⟨k1 + 1, by omega, by go_num, HF.out⟩, by simp [intOf]; omega⟩
      · obtain rfl : k = K := by omega
        have HB := hide HLK.out.st.be
        by_cases hc0 : 0 < c
        · have hk0 := HKs.out hc0
          have d1 : (0 : Int) < (c : Int) := by omega
          have d2 : (0 : Int) < (k : Int) := by omega
          go_wp2
          go_ret
          exact ⟨rfl, HB.out⟩
        · obtain rfl : c = 0 := by omega
          obtain rfl : k = 0 := by omega
          go_wp2
          go_ret
          exact ⟨rfl, HB.out⟩
end Go.Proofs.Ytillnffhhmkgdaa

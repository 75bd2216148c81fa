/-
  Lz: the next repeat, by the program.
-/
import Derived.Test.YtgigiamnhjelmaaDoorLpLong
namespace Go.Proofs.YtgigiamnhjelmaaDoor
open Go.RowKit Go.Lib
/-- The place that a find in a block has. -/
def atW (w : World) (g : Nat) : Nat := match w.cell? ⟨g, 0, none⟩ with
  | some (.int _ n) => n.toNat
  | _ => 0
theorem GB.at {w : World} {g i d l : Nat} (h : GB w g i d l) : atW w g = i := by
  rw [atW, (cell3 h).1]
  rfl
section
variable {w w' : World} {B b mb k i : Nat} {s : ByteArray} {v : Value}
theorem FD.there2 (h : FD B w b mb v s k) {r : Nat} (hr : w.heap.size ≤ r) : ¬ FO v b mb r := fun e => by have := h.there e; omega
/-- A block that is no finder's stays none. -/
theorem FN.out {v' : Value} {n r : Nat} (h : FN v v' n) (hr : r < n) (hn : ¬ FO v b mb r) : ¬ FO v' b mb r := fun e => by
  rcases e with e | e | e
  · exact hn (.inl e)
  · exact hn (.inr (.inl e))
  · rcases h with h | ⟨j, h, hj⟩
    · exact hn (.inr (.inr (h.symm.trans e)))
    · rw [h] at e
      simp at e
      omega
set_option maxRecDepth 100000 in
set_option maxHeartbeats 3200000 in
theorem next_any (h : FD B w b mb v s k) (hi : i ≤ s.size) (hs : s.size ≤ 5000) : Calls Tryd.prog 32 #[.pointer (some ⟨b, 0, none⟩), .int .i64 (i : Int)] w fun e w' => e = .returned (gV (nx s i).1 (nx s i).2) ∧ ∃ v', (∃ k', FD B w' b mb v' s k') ∧ Gs (FO v b mb) w w' ∧ FN v v' w.heap.size := by
  obtain ⟨r, hr⟩ : ∃ r, r = w.heap.size := ⟨_, rfl⟩
  obtain ⟨W, hW⟩ : ∃ W, w.alloc (.cells #[.int .i64 0, .int .i64 0, .int .i64 0] 62) = W := ⟨_, rfl⟩
  have hBW : Below w.heap.size w W := by rw [← hW]; exact (Below.refl _ _).alloc (Nat.le_refl _) _
  have kr : GB W r 0 0 0 := by rw [← hW, hr]; exact heap_alloc_new w _
  have hSW : Same w W := Gs.of_below _ hBW
  have hFW := h.same hSW
  have hrF0 : ¬ FO v b mb r := h.there2 (by omega)
  have HU := hide (longest_any hFW hi hs)
  have H0 := hide (And.intro h (And.intro hSW (And.intro kr (And.intro hr hrF0))))
  have HW := hide hW
  clear h hr hW hBW kr hSW hFW hrF0
  go_enter Tryd.func32, Tryd.ntmps32
  go_wp2_with fail
  rw [HW.out, ← H0.out.2.2.2.1]
  refine HU.out.mono ?_
  rintro _ w2 ⟨rfl, v1, hF2, hG2, hN2⟩
  have hrW := lt_of_block H0.out.2.2.1
  have kr2 : GB w2 r 0 0 0 := (hG2.block r hrW H0.out.2.2.2.2).trans H0.out.2.2.1
  have hrF2 := hN2.out hrW H0.out.2.2.2.2
  obtain ⟨k1, hk1⟩ : ∃ k1, k1 = max k (i + 1) := ⟨_, rfl⟩
  rw [← hk1] at hF2
  obtain ⟨d0, l0, hdl⟩ : ∃ d0 l0, lo s i = (d0, l0) := ⟨_, _, rfl⟩
  obtain ⟨g, hg⟩ : ∃ g, g = w2.heap.size := ⟨_, rfl⟩
  obtain ⟨w3, hw3⟩ : ∃ w3, w2.alloc (.cells #[.int .i64 (i : Int), .int .i64 (d0 : Int), .int .i64 (l0 : Int)] 62) = w3 := ⟨_, rfl⟩
  have hB3 : Below w2.heap.size w2 w3 := by rw [← hw3]; exact (Below.refl _ _).alloc (Nat.le_refl _) _
  have kg : GB w3 g i d0 l0 := by rw [← hw3, hg]; exact heap_alloc_new w2 _
  have hF3 := hF2.same (Gs.of_below _ hB3)
  have hgF : ¬ FO v1 b mb g := hF2.there2 (by omega)
  have kr3 : GB w3 r 0 0 0 := (hB3.block r (lt_of_block kr2)).trans kr2
  have hrg : r ≠ g := by have := lt_of_block kr2; omega
  have hwr : w.heap.size ≤ r ∧ w.heap.size ≤ g := by have := lt_of_block kr2; have := H0.out.2.2.2.1; omega
  have hG3 : Gs (FO v b mb) w w3 := ((H0.out.2.1.mono fun _ _ e => e.elim).trans hG2).bel hB3
  have hN3 : FN v v1 w.heap.size := FN.trans (w1 := W) (FN.refl _ _) hN2 H0.out.2.1.size
  have hlo : nxG s (s.size - i) i (d0, l0) = nx s i := by rw [← hdl]; rfl
  have hlr := lo_le s i
  rw [hdl] at hlr
  have H3 := hide (And.intro hF3 (And.intro kg (And.intro kr3 (And.intro hG3 (And.intro hN3 (And.intro hgF (And.intro hrF2 (And.intro hlo hlr))))))))
  have HW3 := hide (And.intro hw3 (And.intro hg hdl))
  clear hF2 hG2 hN2 hB3 kg hF3 kr2 kr3 hG3 hN3 hgF hrF2 hlo hw3 hg hdl hlr hk1
  simp only [gV]
  rw [HW3.out.2.2]
  go_upto_region 2 with fail
  rw [HW3.out.1, ← HW3.out.2.1]
  go_loopw [6] (fun _ wr => ∃ (a d l k2 : Nat) (v2 : Value), a ≤ s.size ∧ lo s a = (d, l) ∧ nxG s (s.size - a) a (d, l) = nx s i ∧ GB wr g a d l ∧ GB wr r 0 0 0 ∧ FD B wr b mb v2 s k2 ∧ Gs (FO v b mb) w wr ∧ FN v v2 w.heap.size ∧ ¬ FO v2 b mb r ∧ ¬ FO v2 b mb g) (fun _ wr => s.size - atW wr g)
  case atStart => exact ⟨i, d0, l0, k1, v1, hi, HW3.out.2.2, H3.out.2.2.2.2.2.2.2.1, H3.out.2.1, H3.out.2.2.1, H3.out.1, H3.out.2.2.2.1, H3.out.2.2.2.2.1, H3.out.2.2.2.2.2.2.1, H3.out.2.2.2.2.2.1⟩
  case round =>
    obtain ⟨a, d, l, k2, v2, ha, hlo, hnx, kg, kr, hF, hG, hN, hrF, hgF⟩ := hrel
    have hat := kg.at
    have a0 := (cell3 kg).1
    have a2 := (cell3 kg).2.2
    have cb := (cell3 hF.fb).1
    have hll := lo_le s a
    rw [hlo] at hll
    have hl5 : l ≤ 5000 := by simp only at hll; omega
    have HC := hide (And.intro kg (And.intro kr (And.intro hF (And.intro hG (And.intro hN (And.intro hrF hgF))))))
    have HQ := hide (And.intro hlo (And.intro hnx (And.intro ha hat)))
    clear hlo hnx kg kr hF hG hN hrF hgF hll ha hat
    by_cases hc : l < 32 ∧ a < s.size
    · have d1 : (l : Int) < 32 := by omega
      have d2 : decide ((l : Int) < 32) = true := by simpa using d1
      have d3 : (a : Int) < (s.size : Int) := by omega
      have d4 : decide ((a : Int) < (s.size : Int)) = true := by simpa using d3
      have hcl := hc.2
      have HH := hide hc
      clear hc
      go_upto_region 2 with fail
      go_cut [22] (fun t wx => t = .bool true ∧ Same wr wx)
      case first =>
        go_quiet (fail)
        go_wp2
        go_meet
        exact ⟨by first | rfl | rw [d4], (Gs.refl _ _).dn _⟩
      case rest =>
        obtain ⟨rfl, hS⟩ := hcut
        have kg := (hS.block g (lt_of_block HC.out.1) (fun e => e)).trans HC.out.1
        have kr := (hS.block r (lt_of_block HC.out.2.1) (fun e => e)).trans HC.out.2.1
        have hF := HC.out.2.2.1.same hS
        have hG := HC.out.2.2.2.1.trans (hS.mono fun _ _ e => e.elim)
        have b0 := (cell3 kg).1
        have e1 : (a : Int) + 1 = ((a + 1 : Nat) : Int) := by omega
        have e2 : IntKind.i64.wrap ((a + 1 : Nat) : Int) = ((a + 1 : Nat) : Int) := by rw [IntKind.wrap_i64]; omega
        have HLO := hide (longest_any (i := a + 1) hF (by omega) hs)
        have HC4 := hide (And.intro kg (And.intro kr (And.intro hF hG)))
        obtain ⟨a1, ha1⟩ : ∃ a1, a1 = a + 1 := ⟨_, rfl⟩
        rw [← ha1] at e1 e2 HLO
        have HA1 := hide ha1
        clear kg kr hF hG hS ha1
        go_wp2_with fail
        refine HLO.out.mono ?_
        rintro _ w5 ⟨rfl, v5, hF5, hG5, hN5⟩
        obtain ⟨d9, l9, hdl9⟩ : ∃ d9 l9, lo s a1 = (d9, l9) := ⟨_, _, rfl⟩
        have hgW := lt_of_block HC4.out.1
        have hrW := lt_of_block HC4.out.2.1
        have kg5 : GB w5 g a d l := (hG5.block g hgW HC.out.2.2.2.2.2.2).trans HC4.out.1
        have kr5 : GB w5 r 0 0 0 := (hG5.block r hrW HC.out.2.2.2.2.2.1).trans HC4.out.2.1
        have hgF5 := hN5.out hgW HC.out.2.2.2.2.2.2
        have hrF5 := hN5.out hrW HC.out.2.2.2.2.2.1
        have hGG := FO.trans HC4.out.2.2.2 HC.out.2.2.2.2.1 hG5
        have hNN := FN.trans HC.out.2.2.2.2.1 hN5 HC4.out.2.2.2.size
        obtain ⟨z, hz⟩ : ∃ z, z = w5.heap.size := ⟨_, rfl⟩
        obtain ⟨w6, hw6⟩ : ∃ w6, w5.alloc (.cells #[.int .i64 (a1 : Int), .int .i64 (d9 : Int), .int .i64 (l9 : Int)] 62) = w6 := ⟨_, rfl⟩
        have hB6 : Below w5.heap.size w5 w6 := by rw [← hw6]; exact (Below.refl _ _).alloc (Nat.le_refl _) _
        have kz6 : GB w6 z a1 d9 l9 := by rw [← hw6, hz]; exact heap_alloc_new w5 _
        have kg6 : GB w6 g a d l := (hB6.block g (lt_of_block kg5)).trans kg5
        have kr6 : GB w6 r 0 0 0 := (hB6.block r (lt_of_block kr5)).trans kr5
        have hF6 := hF5.same (Gs.of_below _ hB6)
        have hG6 := hGG.bel hB6
        have hzg : z ≠ g := by have := lt_of_block kg5; omega
        obtain ⟨q0, q1, q2⟩ := cell3 kz6
        have p2 := (cell3 kg6).2.2
        have HW6 := hide (And.intro hw6 hz)
        have hl9 : l9 ≤ 5000 := by
          have := lo_le s a1
          rw [hdl9] at this
          simp only at this
          omega
        clear HC
        have HC := hide (And.intro kg6 (And.intro kr6 (And.intro hF6 (And.intro hG6 (And.intro hNN (And.intro hrF5 hgF5))))))
        have HDL := hide hdl9
        clear hF5 hG5 hN5 kg5 kr5 hgF5 hrF5 hGG hNN hB6 kg6 kr6 hF6 hG6 hw6 hz hgW hrW b0
        simp only [gV]
        rw [HDL.out]
        clear hdl9
        by_cases hbr : 0 < l ∧ l9 ≤ l
        · have HNX : Hid (nx s i = (a, (d, l))) := by
            rw [← HQ.out.2.1]
            show nxG s (s.size - a) a (d, l) = _
            rw [show s.size - a = (s.size - a1) + 1 by have := HA1.out; omega, nxG, if_pos HH.out, if_pos (by rw [← HA1.out, HDL.out]; exact hbr)]
          have g1 : (0 : Int) < (l : Int) := by omega
          have g2 : decide ((0 : Int) < (l : Int)) = true := by simpa using g1
          have g3 : (l9 : Int) ≤ (l : Int) := by omega
          have g4 : decide ((l9 : Int) ≤ (l : Int)) = true := by simpa using g3
          have g5 : decide (0 < l) = true := by simpa using hbr.1
          have g6 : decide (l9 ≤ l) = true := by simpa using hbr.2
          have hw6 := HW6.out.1
          have hz := HW6.out.2.symm
          clear hbr
          go_upto_region 4 with fail
          clear hw6 hz
          obtain ⟨⟨z0, z1, z2, z3, z4, z5⟩, ⟨z6, z7, z8, z9⟩, ⟨y6, y7⟩, kf, hG9⟩ := three_set HC.out.2.1 (.int .i64 (a : Int)) (.int .i64 (d : Int)) (.int .i64 (l : Int))
          obtain ⟨u0, u1, u2⟩ := cell3 HC.out.1
          obtain ⟨f0, f1, f2⟩ := cell3 kf
          have hF9 := HC.out.2.2.1.gs hG9 (fun j e e2 => HC.out.2.2.2.2.2.1 (e2 ▸ e))
          have HE : Hid (Value.agg #[.int .i64 (a : Int), .int .i64 (d : Int), .int .i64 (l : Int)] = Value.agg #[.int .i64 ((nx s i).1 : Int), .int .i64 ((nx s i).2.1 : Int), .int .i64 ((nx s i).2.2 : Int)] ∧ ∃ v', (∃ k', FD B (((w6.setCell ⟨r, 0, none⟩ (.int .i64 (a : Int))).setCell ⟨r, 1, none⟩ (.int .i64 (d : Int))).setCell ⟨r, 2, none⟩ (.int .i64 (l : Int))) b mb v' s k') ∧ Gs (FO v b mb) w (((w6.setCell ⟨r, 0, none⟩ (.int .i64 (a : Int))).setCell ⟨r, 1, none⟩ (.int .i64 (d : Int))).setCell ⟨r, 2, none⟩ (.int .i64 (l : Int))) ∧ FN v v' w.heap.size) :=
            ⟨by rw [HNX.out], _, ⟨_, hF9⟩, ((HC.out.2.2.2.1.set (a := ⟨r, 0, none⟩) (.inr hwr.1) _).set (a := ⟨r, 1, none⟩) (.inr hwr.1) _).set (a := ⟨r, 2, none⟩) (.inr hwr.1) _, HC.out.2.2.2.2.1⟩
          clear kf hG9 hF9
          go_wp2
          exact bodyPost_ret (v := .agg #[.int .i64 (a : Int), .int .i64 (d : Int), .int .i64 (l : Int)]) (by simp [results, Tryd.results32, go_sem, f0, f1, f2]) rfl ⟨congrArg Ending.returned HE.out.1, HE.out.2⟩
        · have hnx2 : nxG s (s.size - a1) a1 (d9, l9) = nx s i := by
            rw [← HQ.out.2.1]
            show _ = nxG s (s.size - a) a (d, l)
            rw [show s.size - a = (s.size - a1) + 1 by have := HA1.out; omega, nxG, if_pos HH.out, if_neg (by rw [← HA1.out, HDL.out]; exact hbr), ← HA1.out, HDL.out]
          obtain ⟨⟨z0, z1, z2, z3, z4, z5⟩, ⟨z6, z7, z8, z9⟩, ⟨y6, y7⟩, kf, hG9⟩ := three_set HC.out.1 (.int .i64 (a1 : Int)) (.int .i64 (d9 : Int)) (.int .i64 (l9 : Int))
          have hF9 := HC.out.2.2.1.gs hG9 (fun j e e2 => HC.out.2.2.2.2.2.2 (e2 ▸ e))
          have kr9 : GB _ r 0 0 0 := (hG9.block r (lt_of_block HC.out.2.1) hrg).trans HC.out.2.1
          have hGz := ((HC.out.2.2.2.1.set (a := ⟨g, 0, none⟩) (.inr hwr.2) (.int .i64 (a1 : Int))).set (a := ⟨g, 1, none⟩) (.inr hwr.2) (.int .i64 (d9 : Int))).set (a := ⟨g, 2, none⟩) (.inr hwr.2) (.int .i64 (l9 : Int))
          have kf' : GB (((w6.setCell ⟨g, 0, none⟩ (.int .i64 (a1 : Int))).setCell ⟨g, 1, none⟩ (.int .i64 (d9 : Int))).setCell ⟨g, 2, none⟩ (.int .i64 (l9 : Int))) g a1 d9 l9 := kf
          have HE := hide (And.intro hnx2 (And.intro kf' (And.intro kr9 (And.intro hF9 (And.intro hGz (And.intro HC.out.2.2.2.2.1 (And.intro HC.out.2.2.2.2.2.1 HC.out.2.2.2.2.2.2)))))))
          have hat9 := kf'.at
          have HAT := hide hat9
          clear hnx2 kf hG9 hF9 kr9 hGz kf' hat9
          by_cases hl0 : 0 < l
          · have hgt : l < l9 := by omega
            have g1 : (0 : Int) < (l : Int) := by omega
            have g2 : decide ((0 : Int) < (l : Int)) = true := by simpa using g1
            have g3 : ¬ (l9 : Int) ≤ (l : Int) := by omega
            have g4 : decide ((l9 : Int) ≤ (l : Int)) = false := by simpa using g3
            have g5 : decide (0 < l) = true := by simpa using hl0
            have g6 : decide (l9 ≤ l) = false := by simp; omega
            have hw6 := HW6.out.1
            have hz := HW6.out.2.symm
            clear hbr
            go_upto_region 4 with fail
            clear hw6 hz
            go_wp2
            exact ⟨⟨a1, d9, l9, _, _, by have := HA1.out; omega, HDL.out, HE.out⟩, by rw [HAT.out, HQ.out.2.2.2]; have := HA1.out; omega⟩
          · have g1 : ¬ (0 : Int) < (l : Int) := by omega
            have g2 : decide ((0 : Int) < (l : Int)) = false := by simpa using g1
            have g5 : decide (0 < l) = false := by simp; omega
            have hw6 := HW6.out.1
            have hz := HW6.out.2.symm
            clear hbr
            go_upto_region 4 with fail
            clear hw6 hz
            go_wp2
            exact ⟨⟨a1, d9, l9, _, _, by have := HA1.out; omega, HDL.out, HE.out⟩, by rw [HAT.out, HQ.out.2.2.2]; have := HA1.out; omega⟩
    · have HNX : Hid (nx s i = (a, (d, l))) := by
        rw [← HQ.out.2.1]
        show nxG s (s.size - a) a (d, l) = _
        cases s.size - a with
        | zero => rfl
        | succ f => rw [nxG, if_neg hc]
      by_cases hl : l < 32
      · have d1 : (l : Int) < 32 := by omega
        have d2 : decide ((l : Int) < 32) = true := by simpa using d1
        have d3 : ¬ (a : Int) < (s.size : Int) := by omega
        have d4 : decide ((a : Int) < (s.size : Int)) = false := by simpa using d3
        clear hc
        go_upto_region 2 with fail
        go_cut [22] (fun t wx => t = .bool false ∧ Same wr wx)
        case first =>
          go_quiet (fail)
          go_wp2
          go_meet
          exact ⟨by first | rfl | rw [d4], (Gs.refl _ _).dn _⟩
        case rest =>
          obtain ⟨rfl, hS⟩ := hcut
          have kg := (hS.block g (lt_of_block HC.out.1) (fun e => e)).trans HC.out.1
          have kr := (hS.block r (lt_of_block HC.out.2.1) (fun e => e)).trans HC.out.2.1
          have HC : Hid _ := And.intro kg (And.intro kr (And.intro (HC.out.2.2.1.same hS) (And.intro (HC.out.2.2.2.1.trans (hS.mono fun _ _ e => e.elim)) HC.out.2.2.2.2)))
          clear kg kr hS
          obtain ⟨⟨z0, z1, z2, z3, z4, z5⟩, ⟨z6, z7, z8, z9⟩, ⟨y6, y7⟩, kf, hG9⟩ := three_set HC.out.2.1 (.int .i64 (a : Int)) (.int .i64 (d : Int)) (.int .i64 (l : Int))
          obtain ⟨u0, u1, u2⟩ := cell3 HC.out.1
          obtain ⟨f0, f1, f2⟩ := cell3 kf
          have hF9 := HC.out.2.2.1.gs hG9 (fun j e e2 => HC.out.2.2.2.2.2.1 (e2 ▸ e))
          have HE : Hid (Value.agg #[.int .i64 (a : Int), .int .i64 (d : Int), .int .i64 (l : Int)] = Value.agg #[.int .i64 ((nx s i).1 : Int), .int .i64 ((nx s i).2.1 : Int), .int .i64 ((nx s i).2.2 : Int)] ∧ ∃ v', (∃ k', FD B (((wc.setCell ⟨r, 0, none⟩ (.int .i64 (a : Int))).setCell ⟨r, 1, none⟩ (.int .i64 (d : Int))).setCell ⟨r, 2, none⟩ (.int .i64 (l : Int))) b mb v' s k') ∧ Gs (FO v b mb) w (((wc.setCell ⟨r, 0, none⟩ (.int .i64 (a : Int))).setCell ⟨r, 1, none⟩ (.int .i64 (d : Int))).setCell ⟨r, 2, none⟩ (.int .i64 (l : Int))) ∧ FN v v' w.heap.size) :=
            ⟨by rw [HNX.out], _, ⟨_, hF9⟩, ((HC.out.2.2.2.1.set (a := ⟨r, 0, none⟩) (.inr hwr.1) _).set (a := ⟨r, 1, none⟩) (.inr hwr.1) _).set (a := ⟨r, 2, none⟩) (.inr hwr.1) _, HC.out.2.2.2.2.1⟩
          clear kf hG9 hF9
          go_wp2
          exact bodyPost_ret (v := .agg #[.int .i64 (a : Int), .int .i64 (d : Int), .int .i64 (l : Int)]) (by simp [results, Tryd.results32, go_sem, f0, f1, f2]) rfl ⟨congrArg Ending.returned HE.out.1, HE.out.2⟩
      · have d1 : ¬ (l : Int) < 32 := by omega
        have d2 : decide ((l : Int) < 32) = false := by simpa using d1
        clear hc
        go_upto_region 2 with fail
        go_cut [22] (fun t wx => t = .bool false ∧ Same wr wx)
        case first =>
          go_quiet (fail)
          go_wp2
          go_meet
          exact ⟨by first | rfl | rw [d2], (Gs.refl _ _).dn _⟩
        case rest =>
          obtain ⟨rfl, hS⟩ := hcut
          have kg := (hS.block g (lt_of_block HC.out.1) (fun e => e)).trans HC.out.1
          have kr := (hS.block r (lt_of_block HC.out.2.1) (fun e => e)).trans HC.out.2.1
          have HC : Hid _ := And.intro kg (And.intro kr (And.intro (HC.out.2.2.1.same hS) (And.intro (HC.out.2.2.2.1.trans (hS.mono fun _ _ e => e.elim)) HC.out.2.2.2.2)))
          clear kg kr hS
          obtain ⟨⟨z0, z1, z2, z3, z4, z5⟩, ⟨z6, z7, z8, z9⟩, ⟨y6, y7⟩, kf, hG9⟩ := three_set HC.out.2.1 (.int .i64 (a : Int)) (.int .i64 (d : Int)) (.int .i64 (l : Int))
          obtain ⟨u0, u1, u2⟩ := cell3 HC.out.1
          obtain ⟨f0, f1, f2⟩ := cell3 kf
          have hF9 := HC.out.2.2.1.gs hG9 (fun j e e2 => HC.out.2.2.2.2.2.1 (e2 ▸ e))
          have HE : Hid (Value.agg #[.int .i64 (a : Int), .int .i64 (d : Int), .int .i64 (l : Int)] = Value.agg #[.int .i64 ((nx s i).1 : Int), .int .i64 ((nx s i).2.1 : Int), .int .i64 ((nx s i).2.2 : Int)] ∧ ∃ v', (∃ k', FD B (((wc.setCell ⟨r, 0, none⟩ (.int .i64 (a : Int))).setCell ⟨r, 1, none⟩ (.int .i64 (d : Int))).setCell ⟨r, 2, none⟩ (.int .i64 (l : Int))) b mb v' s k') ∧ Gs (FO v b mb) w (((wc.setCell ⟨r, 0, none⟩ (.int .i64 (a : Int))).setCell ⟨r, 1, none⟩ (.int .i64 (d : Int))).setCell ⟨r, 2, none⟩ (.int .i64 (l : Int))) ∧ FN v v' w.heap.size) :=
            ⟨by rw [HNX.out], _, ⟨_, hF9⟩, ((HC.out.2.2.2.1.set (a := ⟨r, 0, none⟩) (.inr hwr.1) _).set (a := ⟨r, 1, none⟩) (.inr hwr.1) _).set (a := ⟨r, 2, none⟩) (.inr hwr.1) _, HC.out.2.2.2.2.1⟩
          clear kf hG9 hF9
          go_wp2
          exact bodyPost_ret (v := .agg #[.int .i64 (a : Int), .int .i64 (d : Int), .int .i64 (l : Int)]) (by simp [results, Tryd.results32, go_sem, f0, f1, f2]) rfl ⟨congrArg Ending.returned HE.out.1, HE.out.2⟩
end
end Go.Proofs.YtgigiamnhjelmaaDoor

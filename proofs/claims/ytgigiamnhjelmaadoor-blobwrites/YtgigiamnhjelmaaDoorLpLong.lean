/-
  Lz: the longest repeat from a place on, by the program.
-/
import Derived.Test.YtgigiamnhjelmaaDoorLpSee
namespace Go.Proofs.YtgigiamnhjelmaaDoor
open Go.RowKit Go.Lib
/-- A find in a block. -/
def GB (w : World) (g : Nat) (i d l : Nat) : Prop := w.heap[g]? = some (.cells #[.int .i64 (i : Int), .int .i64 (d : Int), .int .i64 (l : Int)] 62 (0, 0))
def gV (i : Nat) (r : Nat × Nat) : Value := .agg #[.int .i64 (i : Int), .int .i64 (r.1 : Int), .int .i64 (r.2 : Int)]
def fv : Option Nat → Int
  | some f => (f : Int)
  | none => -1
section
variable {w w' : World} {B b mb k i : Nat} {s : ByteArray} {v : Value}
theorem bf_fv (s : ByteArray) (i : Nat) : bf s i = fv (pv s i) := by
  rw [bf]
  cases pv s i <;> rfl
theorem FD.row (h : FD B w b mb v s k) (hk : 1 ≤ k) : ∃ p c, v = .slice (some ⟨p, 0, none⟩) k c := by
  obtain ⟨g, c, h1, _⟩ := IO.cell h.ro (j := 0) (z := bf s 0) (by rw [List.getElem?_map, List.getElem?_range hk]; rfl)
  rw [List.length_map, List.length_range] at h1
  exact ⟨g, c, h1⟩
theorem FD.at {p c : Nat} (h : FD B w b mb (.slice (some ⟨p, 0, none⟩) k c) s k) {j : Nat} (hj : j < k) : w.cell? ⟨p, j, none⟩ = some (.int .i32 (bf s j)) := by
  obtain ⟨g, c, h1, h2⟩ := IO.cell h.ro (j := j) (z := bf s j) (by rw [List.getElem?_map, List.getElem?_range hj]; rfl)
  simp only [Value.slice.injEq, Option.some.injEq, Addr.mk.injEq] at h1
  rw [h1.1.1]
  exact h2
theorem bf_range (s : ByteArray) (j : Nat) (hs : s.size ≤ 5000) : -1 ≤ bf s j ∧ bf s j < 5000 := by
  rw [bf]
  cases h : pv s j with
  | none => simp
  | some f =>
    have := pv_some h
    simp only
    omega
set_option maxRecDepth 100000 in
set_option maxHeartbeats 3200000 in
theorem longest_any (h : FD B w b mb v s k) (hi : i ≤ s.size) (hs : s.size ≤ 5000) : Calls Tryd.prog 49 #[.pointer (some ⟨b, 0, none⟩), .int .i64 (i : Int)] w fun e w' => e = .returned (gV i (lo s i)) ∧ ∃ v', FD B w' b mb v' s (max k (i + 1)) ∧ Gs (FO v b mb) w w' ∧ FN v v' w.heap.size := by
  obtain ⟨r, hr⟩ : ∃ r, r = w.heap.size := ⟨_, rfl⟩
  obtain ⟨W, hW⟩ : ∃ W, w.alloc (.cells #[.int .i64 0, .int .i64 0, .int .i64 0] 62) = W := ⟨_, rfl⟩
  have hBW : Below w.heap.size w W := by rw [← hW]; exact (Below.refl _ _).alloc (Nat.le_refl _) _
  have kr : GB W r 0 0 0 := by rw [← hW, hr]; exact heap_alloc_new w _
  have hSW : Same w W := Gs.of_below _ hBW
  have hFW := h.same hSW
  have HU := hide (seeUp_any hFW hi hs)
  have H0 := hide (And.intro h (And.intro hSW (And.intro kr hr)))
  have HW := hide hW
  clear h hr hW hBW kr hSW hFW
  go_enter Tryd.func49, Tryd.ntmps49
  go_wp2_with fail
  rw [HW.out, ← H0.out.2.2.2]
  refine HU.out.mono ?_
  rintro _ w2 ⟨rfl, v1, hF2, hG2, hN2⟩
  obtain ⟨k1, hk1⟩ : ∃ k1, k1 = max k (i + 1) := ⟨_, rfl⟩
  rw [← hk1] at hF2
  obtain ⟨p, c, hv1⟩ := hF2.row (by omega)
  subst hv1
  obtain ⟨g, hg⟩ : ∃ g, g = w2.heap.size := ⟨_, rfl⟩
  obtain ⟨w3, hw3⟩ : ∃ w3, w2.alloc (.cells #[.int .i64 (i : Int), .int .i64 0, .int .i64 0] 62) = w3 := ⟨_, rfl⟩
  have hB3 : Below w2.heap.size w2 w3 := by rw [← hw3]; exact (Below.refl _ _).alloc (Nat.le_refl _) _
  have kg : GB w3 g i 0 0 := by rw [← hw3, hg]; exact heap_alloc_new w2 _
  have hF3 := hF2.same (Gs.of_below _ hB3)
  have hik : i < k1 := by omega
  have c2 := (cell3 hF3.fb).2.2
  have cp := hF3.at hik
  obtain ⟨kr0, hr0⟩ := And.intro H0.out.2.2.1 H0.out.2.2.2
  have hrF : ¬ FO v b mb r := fun e => by have := H0.out.1.there e; omega
  have kr2 : GB w2 r 0 0 0 := (hG2.block r (lt_of_block kr0) hrF).trans kr0
  have kr3 : GB w3 r 0 0 0 := (hB3.block r (lt_of_block kr2)).trans kr2
  have hG3 : Gs (FO v b mb) w w3 := ((H0.out.2.1.mono fun _ _ e => e.elim).trans hG2).bel hB3
  have hN3 : FN v (.slice (some ⟨p, 0, none⟩) k1 c) w.heap.size := FN.trans (w1 := W) (FN.refl _ _) hN2 H0.out.2.1.size
  have hrg : r ≠ g := by have := lt_of_block kr2; omega
  have hwr : w.heap.size ≤ r ∧ w.heap.size ≤ g := by have := lt_of_block kr2; omega
  have hgp : p ≠ g := by have := (hF2.ro.lt p rfl).2; omega
  have hgF : ∀ j, FO (.slice (some ⟨p, 0, none⟩) k1 c) b mb j → j ≠ g := fun j e => by have := hF2.there e; omega
  have hrF2 : ∀ j, FO (.slice (some ⟨p, 0, none⟩) k1 c) b mb j → j ≠ r := fun j e e2 => by
    subst e2
    rcases e with e | e | e
    · exact hrF (.inl e)
    · exact hrF (.inr (.inl e))
    · rcases hN2 with hn | ⟨j2, hn, hj⟩
      · exact hrF (.inr (.inr (hn.symm.trans e)))
      · rw [hn] at e
        simp at e
        have := lt_of_block kr0
        omega
  have hb0 := bf_range s i hs
  have hbfi := bf_fv s i
  have hpv : ∀ (j f : Nat), pv s j = some f → f < j := fun j f e => (pv_some e).1
  have hlo : loG s i 64 (pv s i) 0 0 = lo s i := rfl
  obtain ⟨x0, hx0⟩ : ∃ x0, bf s i = x0 := ⟨_, rfl⟩
  rw [hx0] at cp hb0 hbfi
  have e0 : IntKind.i64.wrap x0 = x0 := by rw [IntKind.wrap_i64]; omega
  have d0 : (i : Int) < (k1 : Int) := by omega
  have H3 := hide (And.intro hF3 (And.intro kg (And.intro kr3 (And.intro hG3 (And.intro hN3 (And.intro hbfi hpv))))))
  have HX := hide (And.intro hgF (And.intro hrF2 (And.intro hr0 hk1)))
  have HLO := hide hlo
  have HW3 := hide (And.intro hw3 hg)
  clear hF2 hG2 hN2 hB3 kg hF3 kr0 hr0 hrF kr2 kr3 hG3 hN3 hgF hrF2 hbfi hpv hlo hk1 hb0 hw3 hg hx0
  go_upto_region 3 with fail
  rw [HW3.out.1, ← HW3.out.2]
  go_wp2
  go_loopw [6, 7] (fun x y wr => ∃ (t n d l : Nat) (o : Option Nat), x = .int .i64 (fv o) ∧ y = .int .i64 (n : Int) ∧ n + t = 64 ∧ loG s i t o d l = lo s i ∧ (∀ f, o = some f → f < i) ∧ GB wr g i d l ∧ GB wr r 0 0 0 ∧ FD B wr b mb (.slice (some ⟨p, 0, none⟩) k1 c) s k1 ∧ Gs (fun j => j = g) w3 wr) (fun _ y _ => 64 - (Go.RowKit.intOf y).toNat)
  case atStart => exact ⟨64, 0, 0, 0, pv s i, by rw [H3.out.2.2.2.2.2.1], rfl, rfl, HLO.out, fun f e => H3.out.2.2.2.2.2.2 i f e, H3.out.2.1, H3.out.2.2.1, H3.out.1, Gs.refl _ _⟩
  case round =>
    obtain ⟨t, n, d, l, o, rfl, rfl, hnt, hlq, hof, kg, kr, hF, hG⟩ := hrel
    have stop : Hid (t = 0 ∨ o = none → (d, l) = lo s i) := by
      rintro (rfl | rfl)
      · rw [← hlq, loG]
      · rw [← hlq]
        cases t <;> rfl
    by_cases ht : t = 0 ∨ o = none
    · have hdl := stop.out ht
      obtain ⟨⟨z0, z1, z2, z3, z4, z5⟩, ⟨z6, z7, z8, z9⟩, ⟨y6, y7⟩, kf, hG9⟩ := three_set kr (.int .i64 (i : Int)) (.int .i64 (d : Int)) (.int .i64 (l : Int))
      obtain ⟨u0, u1, u2⟩ := cell3 kg
      obtain ⟨f0, f1, f2⟩ := cell3 kf
      have hF9 := hF.gs hG9 (fun j e => HX.out.2.1 j e)
      have HE : Hid (.agg #[.int .i64 (i : Int), .int .i64 (d : Int), .int .i64 (l : Int)] = gV i (lo s i) ∧ ∃ v', FD B (((wr.setCell ⟨r, 0, none⟩ (.int .i64 (i : Int))).setCell ⟨r, 1, none⟩ (.int .i64 (d : Int))).setCell ⟨r, 2, none⟩ (.int .i64 (l : Int))) b mb v' s (max k (i + 1)) ∧ Gs (FO v b mb) w (((wr.setCell ⟨r, 0, none⟩ (.int .i64 (i : Int))).setCell ⟨r, 1, none⟩ (.int .i64 (d : Int))).setCell ⟨r, 2, none⟩ (.int .i64 (l : Int))) ∧ FN v v' w.heap.size) := by
        refine ⟨by rw [gV, ← hdl], _, by rw [← HX.out.2.2.2]; exact hF9, ?_, H3.out.2.2.2.2.1⟩
        refine ⟨hG9.os.trans (hG.os.trans H3.out.2.2.2.1.os), hG9.tape.trans (hG.tape.trans H3.out.2.2.2.1.tape), hG9.output.trans (hG.output.trans H3.out.2.2.2.1.output), Nat.le_trans H3.out.2.2.2.1.size (Nat.le_trans hG.size hG9.size), fun j hj hp => ?_⟩
        have s1 := H3.out.2.2.2.1.size
        have s2 := hG.size
        exact (hG9.block j (by omega) (by have := hwr.1; omega)).trans ((hG.block j (by omega) (by have := hwr.2; omega)).trans (H3.out.2.2.2.1.block j hj hp))
      rcases ht with rfl | rfl
      · have d1 : ¬ (n : Int) < 64 := by omega
        have d2 : decide ((n : Int) < 64) = false := by simpa using d1
        clear kf hG9 hF9 hlq hof kg kr hF hG
        go_wp2
        exact bodyPost_ret (v := .agg #[.int .i64 (i : Int), .int .i64 (d : Int), .int .i64 (l : Int)]) (by simp [results, Tryd.results49, go_sem, f0, f1, f2]) rfl ⟨congrArg Ending.returned HE.out.1, HE.out.2⟩
      · by_cases hn : n < 64
        · have d1 : (n : Int) < 64 := by omega
          have d2 : decide ((n : Int) < 64) = true := by simpa using d1
          have d3 : ((-1 : Int) != -1) = false := rfl
          simp only [fv]
          clear kf hG9 hF9 hlq hof kg kr hF hG
          go_wp2
          exact bodyPost_ret (v := .agg #[.int .i64 (i : Int), .int .i64 (d : Int), .int .i64 (l : Int)]) (by simp [results, Tryd.results49, go_sem, f0, f1, f2]) rfl ⟨congrArg Ending.returned HE.out.1, HE.out.2⟩
        · have d1 : ¬ (n : Int) < 64 := by omega
          have d2 : decide ((n : Int) < 64) = false := by simpa using d1
          simp only [fv]
          clear kf hG9 hF9 hlq hof kg kr hF hG
          go_wp2
          exact bodyPost_ret (v := .agg #[.int .i64 (i : Int), .int .i64 (d : Int), .int .i64 (l : Int)]) (by simp [results, Tryd.results49, go_sem, f0, f1, f2]) rfl ⟨congrArg Ending.returned HE.out.1, HE.out.2⟩
    · have ht0 : t ≠ 0 := fun e => ht (.inl e)
      obtain ⟨f, rfl⟩ : ∃ f, o = some f := by
        cases o with
        | none => exact absurd (.inr rfl) ht
        | some f => exact ⟨f, rfl⟩
      obtain ⟨t', rfl⟩ : ∃ t', t = t' + 1 := ⟨t - 1, by omega⟩
      have hfi := hof f rfl
      rw [loG, if_pos (by omega)] at hlq
      obtain ⟨y, hy⟩ : ∃ y, y = i - f := ⟨_, rfl⟩
      obtain ⟨R, hR⟩ : ∃ R, sm s f i = R := ⟨_, rfl⟩
      have HSM := hide (same_any hF.fb hfi hi hs)
      have hRl := sm_le (s := s) (j := f) (i := i)
      rw [hR] at hlq HSM hRl
      rw [← hy] at hlq
      have d1 : (n : Int) < 64 := by omega
      have d2 : decide ((n : Int) < 64) = true := by simpa using d1
      have d3 : ((f : Int) != -1) = true := by simp
      have d4 : (i : Int) - (f : Int) = (y : Int) := by omega
      have d5 : IntKind.i64.wrap (y : Int) = (y : Int) := by rw [IntKind.wrap_i64]; omega
      have d6 : (y : Int) ≤ 65535 := by omega
      have d7 : decide ((y : Int) ≤ 65535) = true := by simpa using d6
      have d8 : ((f : Int) == -1) = false := by simp
      have d9 : ¬ (f : Int) = -1 := by omega
      have dA : (f : Int) < (k1 : Int) := by omega
      have dB : IntKind.i64.wrap ((n : Int) + 1) = (n : Int) + 1 := by rw [IntKind.wrap_i64]; omega
      have HQ := hide (And.intro hlq (And.intro hnt (And.intro kg (And.intro kr (And.intro hF (And.intro hG hfi))))))
      clear stop ht hlq hof kg kr hF hG hR hRl hy hfi
      simp only [fv]
      go_wp2_with fail
      refine HSM.out.mono ?_
      rintro _ w5 ⟨rfl, hS5⟩
      have hF5 := HQ.out.2.2.2.2.1.same hS5
      have kg5 : GB w5 g i d l := (hS5.block g (lt_of_block HQ.out.2.2.1) (fun e => e)).trans HQ.out.2.2.1
      have kr5 : GB w5 r 0 0 0 := (hS5.block r (lt_of_block HQ.out.2.2.2.1) (fun e => e)).trans HQ.out.2.2.2.1
      have hG5 : Gs (fun j => j = g) w3 w5 := HQ.out.2.2.2.2.2.1.trans (hS5.mono fun _ _ e => e.elim)
      have a2 := (cell3 kg5).2.2
      have hbv := bf_fv s f
      have hbr := bf_range s f hs
      obtain ⟨x1, hx1⟩ : ∃ x1, bf s f = x1 := ⟨_, rfl⟩
      rw [hx1] at hbv hbr
      have e1 : IntKind.i64.wrap x1 = x1 := by rw [IntKind.wrap_i64]; omega
      have HBV := hide hbv
      have hpf : Hid (∀ f', pv s f = some f' → f' < i) := fun f' e => by have := (pv_some e).1; have := HQ.out.2.2.2.2.2.2; omega
      clear hbv hbr
      by_cases hl : l < R
      · have c1 : (l : Int) < (R : Int) := by omega
        have hlq := HQ.out.1
        rw [if_pos hl] at hlq
        have HLQ := hide hlq
        obtain ⟨w6, hw6⟩ : ∃ w6, (w5.setCell ⟨g, 1, none⟩ (.int .i64 (y : Int))).setCell ⟨g, 2, none⟩ (.int .i64 (R : Int)) = w6 := ⟨_, rfl⟩
        have m1 : GB (w5.setCell ⟨g, 1, none⟩ (.int .i64 (y : Int))) g i y l := heap_set_self (u := .int .i64 (y : Int)) kg5
        have kg6 : GB w6 g i y R := by rw [← hw6]; exact heap_set_self (u := .int .i64 (R : Int)) m1
        have hG6 : Gs (fun j => j = g) w5 w6 := by rw [← hw6]; exact ((Gs.refl (fun j => j = g) _).set (a := ⟨g, 1, none⟩) (.inl rfl) _).set (a := ⟨g, 2, none⟩) (.inl rfl) _
        have hF6 := hF5.gs hG6 (fun j e => HX.out.1 j e)
        have kr6 : GB w6 r 0 0 0 := (hG6.block r (lt_of_block kr5) hrg).trans kr5
        have z0 := (cell3 kg5).2.1
        have z1 := free3 kg5 1
        have z2 := (cell3 m1).2.2
        have z3 := free3 m1 2
        have b2 := (cell3 hF6.fb).2.2
        have b3 := hF6.at (j := f) (by omega)
        rw [hx1] at b3
        have HE := hide (And.intro kg6 (And.intro kr6 (And.intro hF6 (hG5.trans hG6))))
        clear hl hlq m1 kg6 hG6 hF6 kr6 hF5 kg5 kr5 hG5 hS5 hx1
        go_wp2
        rw [HBV.out]
        exact ⟨⟨t', n + 1, y, R, pv s f, rfl, by go_num, by have := HQ.out.2.1; omega, HLQ.out, hpf.out, HE.out⟩, by have := HQ.out.2.1; simp [Go.RowKit.intOf]; omega⟩
      · have c1 : ¬ (l : Int) < (R : Int) := by omega
        have hlq := HQ.out.1
        rw [if_neg hl] at hlq
        have HLQ := hide hlq
        have b2 := (cell3 hF5.fb).2.2
        have b3 := hF5.at (j := f) (by omega)
        rw [hx1] at b3
        have HE := hide (And.intro kg5 (And.intro kr5 (And.intro hF5 hG5)))
        clear hl hlq hF5 kg5 kr5 hG5 hS5 hx1
        go_wp2
        rw [HBV.out]
        exact ⟨⟨t', n + 1, d, l, pv s f, rfl, by go_num, by have := HQ.out.2.1; omega, HLQ.out, hpf.out, HE.out⟩, by have := HQ.out.2.1; simp [Go.RowKit.intOf]; omega⟩
end
end Go.Proofs.YtgigiamnhjelmaaDoor

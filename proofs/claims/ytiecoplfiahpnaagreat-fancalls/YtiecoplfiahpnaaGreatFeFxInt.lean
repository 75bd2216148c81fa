/-
  Fan: FanCalls: codes as numbers, lists of numbers that are the same, the document's answers of so many stores.
-/
import Derived.Test.YtiecoplfiahpnaaGreatFc12
namespace Go.Proofs.YtiecoplfiahpnaaGreat
open Go.RowKit Go.Lib Go.Maps
theorem Tryz.infoI : (Tryz.prog.info? 3).map (fun i => (i.zero, i.size, i.bytes)) = some (some (.int .i64 0), 1, 8) := by kernel_rfl
section
variable {w w' : World} {v : Value} {l cs : List Int} {B : Nat} {r r' : Nat → Prop}
/-- A number more. -/
theorem ipush (h : OW c1 1 3 B v l w) (c : Int) (hb : (l.length + 1) * 8 ≤ 140737488355328) (hB : B ≤ w.heap.size) :
    ∃ v' w', (Builtin.append_ #[67, 67] 67 #[v, .slice (some ⟨w.heap.size, 0, none⟩) 1 1]).run Tryz.prog (w.alloc (.cells #[.int .i64 c] 3)) = .ok v' w' ∧ OW c1 1 3 B v' (l ++ [c]) w' ∧ Gs (fun i => v.ownBlock = some i) w w' := by
  have hb0 : Below w.heap.size w (w.alloc (.cells #[.int .i64 c] 3)) := (Below.refl _ _).alloc (Nat.le_refl _) _
  obtain ⟨v', w', h1, h2, h3, h4⟩ := OW.app (ST := 67) (m := [c]) (r := fun _ => True) c1_len (by decide) (fun x _ => c1_one x) Tryz.underlying67 Tryz.infoI rfl (h.keep hb0) (LS.one c 3 w c1 1 _ trivial) (by simpa using hb) (by simp; omega) (by simp; omega)
  refine ⟨v', w', h1, h2, ⟨h3.os.trans hb0.os, h3.tape.trans hb0.tape, h3.output.trans hb0.output, Nat.le_trans hb0.size h3.size, fun i hi hn => ?_⟩⟩
  exact (h3.block i (Nat.lt_of_lt_of_le hi hb0.size) (fun e => hn e.symm)).trans (hb0.block i hi)
set_option maxRecDepth 100000 in
set_option maxHeartbeats 3200000 in
theorem codes9 (hl : LS c1 1 r w v cs) (hn : cs.length ≤ 1000000) :
    Calls Tryz.prog 23 #[v] w fun e w' => ∃ u, e = .returned u ∧ OW c1 1 3 w.heap.size u cs w' ∧ Below w.heap.size w w' := by
  obtain ⟨a, c, rfl, h1, h2⟩ := hl
  have HC : Hid (∀ j x, cs[j]? = some x → ∀ wr, Below w.heap.size w wr → ∃ g o, a = some ⟨g, o, none⟩ ∧ wr.cell? ⟨g, o + j, none⟩ = some (.int .i64 x)) := fun j x hx wr hb => by
    rcases h2 with h2 | ⟨g, o, ea, hr, hg, hG⟩
    · rw [h2] at hx; simp at hx
    · refine ⟨g, o, ea, ?_⟩
      have := (hb.cell (p := ⟨g, o + j * 1, none⟩) hg).trans (hG j x hx 0 _ rfl)
      rw [Nat.mul_one] at this
      exact this
  obtain ⟨m, hm⟩ : ∃ m, m = cs.length := ⟨_, rfl⟩
  rw [← hm] at hn ⊢
  have HM := hide hm
  clear hm h1 h2
  go_enter Tryz.func23, Tryz.ntmps23
  go_wp2
  go_loopw [3, 4] (fun v i wr => ∃ j : Nat, j ≤ m ∧ i = .int .i64 j ∧ OW c1 1 3 w.heap.size v (cs.take j) wr ∧ Below w.heap.size w wr) (fun _ i _ => m - (intOf i).toNat)
  case atStart => exact ⟨0, Nat.zero_le _, rfl, by rw [List.take_zero]; exact OW.nil _ _ _ _ _, Below.refl _ _⟩
  case round =>
    obtain ⟨j, hj, rfl, hO, hB⟩ := hrel
    by_cases hlt : j < m
    · have b1 : (j : Int) < (m : Int) := by omega
      have b0 : (0 : Int) ≤ (j : Int) := by omega
      obtain ⟨x, hx⟩ : ∃ x, cs[j]? = some x := ⟨_, List.getElem?_eq_getElem (by rw [← HM.out]; exact hlt)⟩
      obtain ⟨g, o, rfl, z0⟩ := HC.out j x hx _ hB
      obtain ⟨v2, w2, hr1, hO2, hG2⟩ := ipush hO x (by rw [List.length_take]; omega) hB.size
      have HE : Hid (OW c1 1 3 w.heap.size v2 (cs.take (j + 1)) w2 ∧ Below w.heap.size w w2) := by
        refine ⟨?_, hG2.below hB hB.size fun i e => (hO.lt i e).1⟩
        rw [take_snoc_at hx]
        exact hO2
      clear hO hB hO2 hG2 hx
      go_wp2_with (at_builtin; refine Lib.wpList_append_run _ rfl _ _ _ _ rfl _ _ rfl rfl _ _ hr1 ?_)
      exact ⟨⟨j + 1, by omega, by go_num, HE.out⟩, by simp [intOf]; omega⟩
    · obtain rfl : j = m := by omega
      have e : cs.take j = cs := List.take_of_length_le (by have := HM.out; omega)
      rw [e] at hO
      have HE := hide (And.intro hO hB)
      clear hO hB
      go_wp2
      go_ret
      exact ⟨_, rfl, HE.out⟩
set_option maxRecDepth 100000 in
set_option maxHeartbeats 800000 in
theorem sameInts9 {u : Value} (hu : LS c1 1 r w u l) (hv : LS c1 1 r' w v l) (hl : l.length ≤ 1000000000) :
    Calls Tryz.prog 22 #[u, v] w fun e w' => e = .returned (.bool true) ∧ Below w.heap.size w w' := by
  obtain ⟨a, c, rfl, _, hA⟩ := hu
  obtain ⟨a', c', rfl, _, hA'⟩ := hv
  obtain ⟨N, hN⟩ : ∃ N, N = l.length := ⟨_, rfl⟩
  have HN := hide hN
  have hNl : N ≤ 1000000000 := by omega
  rw [← hN]
  have HA := hide hA
  have HA' := hide hA'
  clear hN hA hA' hl
  go_enter Tryz.func22, Tryz.ntmps22
  go_wp2
  go_loopw [5] (fun i wr => ∃ j : Nat, j ≤ N ∧ i = .int .i64 j ∧ Below w.heap.size w wr) (fun i _ => N - (intOf i).toNat)
  case atStart => exact ⟨0, Nat.zero_le _, rfl, Below.refl _ _⟩
  case round =>
    obtain ⟨j, hj, rfl, hb⟩ := hrel
    have HB := hide hb
    by_cases hlt : j < N
    · have hjl : j < l.length := by rw [← HN.out]; omega
      obtain ⟨x, hx⟩ : ∃ x, l[j]? = some x := ⟨_, List.getElem?_eq_getElem hjl⟩
      obtain ⟨g, o, rfl, _, hg, hC⟩ := HA.out.resolve_left (by intro e; rw [e] at hx; simp at hx)
      obtain ⟨g', o', rfl, _, hg', hC'⟩ := HA'.out.resolve_left (by intro e; rw [e] at hx; simp at hx)
      have z1 := (hb.cell (p := ⟨g, o + j * 1, none⟩) hg).trans (hC j x hx 0 _ rfl)
      have z2 := (hb.cell (p := ⟨g', o' + j * 1, none⟩) hg').trans (hC' j x hx 0 _ rfl)
      rw [Nat.mul_one] at z1 z2
      have b1 : (j : Int) < (N : Int) := by omega
      have b0 : (0 : Int) ≤ (j : Int) := by omega
      have HB2 := hide HB.out.drew
      clear hC hC' hx hb
      go_upto_region 6 with fail
      go_region
      go_wp2
      exact ⟨⟨j + 1, by omega, by go_num, HB2.out⟩, by simp [intOf]; omega⟩
    · obtain rfl : j = N := by omega
      clear hb
      go_wp2
      go_ret
      exact ⟨rfl, HB.out⟩
end
section
variable {w w' : World} {rv : Value} {S : List SS} {rs : List Nat} {P : Nat → Prop} {t : Nat}
set_option maxRecDepth 100000 in
set_option maxHeartbeats 3200000 in
theorem all9 (hY : YD P w rv S rs) (hP : ∀ i, P i → i < w.heap.size) (hG : GD t S) (ht : t ≤ 700) (nn k : Int) (n : ByteArray) (hn : n.size ≤ maxLen) :
    Calls Tryz.prog 21 #[rv, .int .i64 nn, .agg #[.int .i64 0, .int .i64 k, .string n, .string ⟨#[]⟩]] w fun e w' => ∃ v X, e = .returned v ∧ OW x3 3 72 w.heap.size v X w' ∧ X.map (·.1) = yRs S (aq k n ⟨#[]⟩ (nst nn)) ∧ (∀ y ∈ X, TS w.heap.size y.2 y.1.l w') ∧ YD P w' rv (ySs S (aq k n ⟨#[]⟩ (nst nn))) rs ∧ Gs (fun i => i ∈ rs) w w' := by
  obtain ⟨U, hU⟩ : ∃ U, U = w.alloc (.cells #[.int .i64 0, .int .i64 k, .string n, .string ⟨#[]⟩] 65) := ⟨_, rfl⟩
  obtain ⟨X0, hX⟩ : ∃ X0, X0 = w.heap.size := ⟨_, rfl⟩
  have hBU : Below w.heap.size w U := by rw [hU]; exact (Below.refl _ _).alloc (Nat.le_refl _) _
  have hRB : U.heap[X0]? = some (.cells #[.int .i64 0, .int .i64 k, .string n, .string ⟨#[]⟩] 65 (0, 0)) := by rw [hU, hX]; exact heap_alloc_new w _
  have hUs := hBU.size
  by_cases hok : 1 ≤ nn ∧ nn ≤ 255
  · obtain ⟨m, rfl⟩ : ∃ m : Nat, nn = (m : Int) := ⟨nn.toNat, by omega⟩
    rw [nst_nat m (by omega) (by omega)]
    have HA := hide (rall_any (hY.bel hBU) (fun i hi => by have := hP i hi; omega) hG m (by omega) 0 k n ⟨#[]⟩ hn (by decide))
    have b1 : ¬ (m : Int) < 1 := by omega
    have b2 : ¬ (255 : Int) < (m : Int) := by omega
    have y0 : U.cell? ⟨X0, 0, none⟩ = some (.int .i64 0) := by simp [World.cell?, hRB]
    have y1 : U.cell? ⟨X0, 1, none⟩ = some (.int .i64 k) := by simp [World.cell?, hRB]
    have y2 : U.cell? ⟨X0, 2, none⟩ = some (.string n) := by simp [World.cell?, hRB]
    have y3 : U.cell? ⟨X0, 3, none⟩ = some (.string ⟨#[]⟩) := by simp [World.cell?, hRB]
    have HU := hide hU
    have HX := hide hX
    have HB := hide hBU
    clear hY hP hG ht hn hok hU hX hBU hRB hUs
    go_enter Tryz.func21, Tryz.ntmps21
    go_upto_region 1 with fail
    rw [← HU.out, ← HX.out]
    go_wp2_with fail
    refine HA.out.mono ?_
    rintro e w1 ⟨v, X, rfl, h1, h2, h3, h4, h5⟩
    have hs := HB.out.size
    have HF : Hid (OW x3 3 72 w.heap.size v X w1 ∧ X.map (·.1) = yRs S (aq k n ⟨#[]⟩ m) ∧ (∀ y ∈ X, TS w.heap.size y.2 y.1.l w1) ∧ YD P w1 rv (ySs S (aq k n ⟨#[]⟩ m)) rs ∧ Gs (fun i => i ∈ rs) w w1) := ⟨h1.low hs, h2, fun y hy => (h3 y hy).low hs, h4, (Gs.of_below _ HB.out).trans h5⟩
    clear h1 h2 h3 h4 h5 hs
    go_wp2
    go_ret
    exact ⟨v, X, rfl, HF.out⟩
  · rw [nst_no nn (by omega)]
    have HF : Hid (OW x3 3 72 w.heap.size (.slice none 0 0) [] U ∧ ([] : List (RR × Value)).map (·.1) = yRs S (aq k n ⟨#[]⟩ 0) ∧ (∀ y ∈ ([] : List (RR × Value)), TS w.heap.size y.2 y.1.l U) ∧ YD P U rv (ySs S (aq k n ⟨#[]⟩ 0)) rs ∧ Gs (fun i => i ∈ rs) w U) := ⟨OW.nil _ _ _ _ _, rfl, (fun y hy => by cases hy), hY.bel hBU, Gs.of_below _ hBU⟩
    have HU := hide hU
    have HX := hide hX
    clear hY hP hG ht hn hU hX hBU hRB hUs
    rcases (show nn < 1 ∨ (¬ nn < 1 ∧ 255 < nn) by omega) with hb | ⟨hb, hb2⟩ <;> (
      clear hok
      go_enter Tryz.func21, Tryz.ntmps21
      go_upto_region 1 with fail
      rw [← HU.out, ← HX.out]
      go_wp2
      go_ret
      first | exact ⟨.slice none 0 0, [], rfl, HF.out⟩ | exact ⟨.slice none 0 0, rfl, [], HF.out.1, HF.out.2.1, (fun a b h => by cases h), HF.out.2.2.2⟩)
end
end Go.Proofs.YtiecoplfiahpnaaGreat

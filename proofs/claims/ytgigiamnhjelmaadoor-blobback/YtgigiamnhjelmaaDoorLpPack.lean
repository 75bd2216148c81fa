/-
  Lz: Pack, by the program.
-/
import Derived.Test.YtgigiamnhjelmaaDoorLpAdd2
namespace Go.Proofs.YtgigiamnhjelmaaDoor
open Go.RowKit Go.Lib Go.Maps
/-- A list of bytes lies in no block of another type. -/
theorem bo_apart {B c : Nat} {v : Value} {O : List UInt8} {w : World} {cs : Array Value} {T : TypeId} {fr : Nat × Nat} (h : BO B v O w) (hc : w.heap[c]? = some (.cells cs T fr)) (hT : T ≠ 5) : v.ownBlock ≠ some c := fun e => by
  obtain ⟨cs2, h2⟩ := h.typ c e
  rw [hc] at h2
  simp at h2
  exact hT h2.2.1
theorem bo_fo {B b mb k : Nat} {v u : Value} {O : List UInt8} {w : World} {s : ByteArray} (h : BO B u O w) (hF : FD B w b mb v s k) : ∀ i, FO v b mb i → ¬ Ow u i := fun i hi e => by
  rcases hi with rfl | rfl | hi
  · exact bo_apart h hF.fb (by decide) e
  · obtain ⟨cs, hc⟩ := h.typ _ e
    exact hF.mp.notCells hc
  · obtain ⟨cs, hc⟩ := hF.ro.typ i hi
    exact bo_apart h hc (by decide) e
section
variable {w : World} {s : ByteArray}
theorem wpList_makeMap_run {ops : Array Oper} {rest : List Oper} {op : Oper} {a : Act} {w w1 : World} {Q : Exit → Act → World → Prop} {u : Value} (hgd : op.guard = none) (ty : TypeId) (ho : op.op = .makeMap ty none)
    (hr : (Instr.makeMap ty none).run Tryd.prog w = .ok u w1) (h : wpList Tryd.prog ops Q rest (a.put op.dst u) w1) : wpList Tryd.prog ops Q (op :: rest) a w :=
  wpList_plain hgd fun _ hK => by
    unfold Oper.wp execOp
    simp only [ho, Option.map_none, hr, Sem.run_bind, Sem.run_pure, Result.andThen_ok]
    exact hK _ _ h
/-- What was packed so far. -/
def pkX (s : ByteArray) (i : Nat) (O : List UInt8) : Prop := O ++ enL (seG s (s.size - i) i) = enL (seG s s.size 0)
theorem seG_enough {s : ByteArray} : ∀ (f f' i : Nat), s.size - i ≤ f → s.size - i ≤ f' → i ≤ s.size → seG s f i = seG s f' i
  | 0, 0, _, _, _, _ => rfl
  | 0, f' + 1, i, h, _, hi => by
    have hx : (nx s i).2.2 = 0 := by
      rw [nx_lo]
      have := (nx_is s i).2.1
      exact lo_few (by omega)
    rw [seG, seG, if_neg (by omega)]
  | f + 1, 0, i, _, h, hi => by
    have hx : (nx s i).2.2 = 0 := by
      rw [nx_lo]
      have := (nx_is s i).2.1
      exact lo_few (by omega)
    rw [seG, seG, if_neg (by omega)]
  | f + 1, f' + 1, i, h, h', hi => by
    rw [seG, seG]
    by_cases c : 0 < (nx s i).2.2
    · obtain ⟨r1, r2, r3, r4, r5, r6⟩ := nx_rp c
      have := (nx_is s i).2.1
      rw [if_pos c, if_pos c, seG_enough f f' _ (by omega) (by omega) (by omega)]
    · rw [if_neg c, if_neg c]
set_option maxRecDepth 100000 in
set_option maxHeartbeats 1600000 in
theorem pack_long (h : 1048576 < s.size) (hs : s.size ≤ 4611686018427387904) : Calls Tryd.prog 17 #[.string s] w fun e w' => e = .returned (.tuple #[.string ⟨#[]⟩, .int .i64 2]) ∧ Below w.heap.size w w' := by
  have c1 : (1048576 : Int) < (s.size : Int) := by omega
  go_enter Tryd.func17, Tryd.ntmps17
  go_wp2
  exact bodyPost_ret (v := .tuple #[.string ⟨#[]⟩, .int .i64 2]) (by simp [results, Tryd.results17, go_sem]) rfl ⟨rfl, Below.refl _ _⟩
set_option maxRecDepth 100000 in
set_option maxHeartbeats 3200000 in
theorem pack_ok (hs : s.size ≤ 5000) : Calls Tryd.prog 17 #[.string s] w fun e w' => e = .returned (.tuple #[.string (pkB s), .int .i64 0]) ∧ Below w.heap.size w w' := by
  have c1 : ¬ (1048576 : Int) < (s.size : Int) := by omega
  obtain ⟨mb, hmb⟩ : ∃ mb, mb = w.heap.size := ⟨_, rfl⟩
  obtain ⟨w1, hw1⟩ : ∃ w1, w.alloc (.map #[] 0) = w1 := ⟨_, rfl⟩
  obtain ⟨b, hb⟩ : ∃ b, b = w1.heap.size := ⟨_, rfl⟩
  obtain ⟨w2, hw2⟩ : ∃ w2, w1.alloc (.cells #[.string s, .map (some mb), .slice none 0 0] 60) = w2 := ⟨_, rfl⟩
  have hmm : (Instr.makeMap 57 none).run Tryd.prog w = .ok (.map (some mb)) w1 := by rw [hmb, ← hw1]; rfl
  have hB1 : Below w.heap.size w w1 := by rw [← hw1]; exact (Below.refl _ _).alloc (Nat.le_refl _) _
  have hB2 : Below w1.heap.size w1 w2 := by rw [← hw2]; exact (Below.refl _ _).alloc (Nat.le_refl _) _
  have hM1 : MF w1 mb s 0 := by rw [← hw1, hmb]; exact MF.made w s
  have hFB : FB w2 b s mb (.slice none 0 0) := by rw [← hw2, hb]; exact heap_alloc_new w1 _
  have hFD : FD w.heap.size w2 b mb (.slice none 0 0) s 0 := ⟨hFB, hM1.kb (hB2.block mb hM1.lt), OW.nil _ _ _ _ _, Nat.le_trans hB1.size hB2.size⟩
  have HN := hide (next_any hFD (Nat.zero_le _) hs)
  have hbw := below_step hB1 hB2
  have hwb : w.heap.size ≤ mb ∧ w.heap.size ≤ b := ⟨by omega, by have := hB1.size; omega⟩
  have H2 := hide (And.intro hFD hbw)
  have HW := hide (And.intro hw2 hb)
  have htot : (enL (seG s s.size 0)).length ≤ 6000 := by
    have := enL_len _ _ (seG_ws (s := s) s.size 0 (Nat.zero_le _)).1
    have := (seG_ws (s := s) s.size 0 (Nat.zero_le _)).2
    omega
  clear hw1 hb hB1 hB2 hM1 hFB hFD hbw hw2 hmb
  go_enter Tryd.func17, Tryd.ntmps17
  go_wp2_with (refine wpList_makeMap_run rfl _ rfl hmm ?_)
  rw [HW.out.1, ← HW.out.2]
  refine HN.out.mono ?_
  rintro _ w3 ⟨rfl, v3, ⟨k3, hF3⟩, hG3, hN3⟩
  obtain ⟨a0, d0, l0, hnx0⟩ : ∃ a0 d0 l0, nx s 0 = (a0, d0, l0) := ⟨_, _, _, rfl⟩
  obtain ⟨g0, hg0⟩ : ∃ g0, g0 = w3.heap.size := ⟨_, rfl⟩
  obtain ⟨w4, hw4⟩ : ∃ w4, w3.alloc (.cells #[.int .i64 (a0 : Int), .int .i64 (d0 : Int), .int .i64 (l0 : Int)] 62) = w4 := ⟨_, rfl⟩
  have hB4 : Below w3.heap.size w3 w4 := by rw [← hw4]; exact (Below.refl _ _).alloc (Nat.le_refl _) _
  have kg4 : GB w4 g0 a0 d0 l0 := by rw [← hw4, hg0]; exact heap_alloc_new w3 _
  have hF4 := hF3.same (Gs.of_below _ hB4)
  have hgF4 : ¬ FO v3 b mb g0 := hF3.there2 (by omega)
  have hbw3 : Below w.heap.size w w3 := hG3.below H2.out.2 H2.out.2.size (fun i e => by
    rcases e with rfl | rfl | e
    · exact hwb.2
    · exact hwb.1
    · simp [Value.ownBlock] at e)
  have hbw4 := below_step hbw3 hB4
  have hg0w : w.heap.size ≤ g0 := by have := hbw3.size; omega
  have H4 := hide (And.intro kg4 (And.intro hF4 (And.intro hgF4 (And.intro hbw4 (And.intro hnx0 hg0w)))))
  have HW4 := hide (And.intro hw4 hg0)
  clear hF3 hG3 hN3 hg0 hw4 hB4 kg4 hF4 hgF4 hbw3 hbw4 hg0w hmm
  rw [hnx0]
  simp only [gV]
  clear hnx0
  go_wp2_with fail
  rw [HW4.out.1, ← HW4.out.2]
  go_loopw [5, 6, 7] (fun x y z wr => ∃ (O : List UInt8) (i g k a d l : Nat) (v : Value), y = .int .i64 (i : Int) ∧ z = .pointer (some ⟨g, 0, none⟩) ∧ BO w.heap.size x O wr ∧ GB wr g a d l ∧ nx s i = (a, d, l) ∧ FD w.heap.size wr b mb v s k ∧ ¬ FO v b mb g ∧ pkX s i O ∧ i ≤ s.size ∧ w.heap.size ≤ g ∧ Below w.heap.size w wr ∧ (∀ c, v.ownBlock = some c → w.heap.size ≤ c)) (fun _ y _ _ => s.size - (Go.RowKit.intOf y).toNat)
  case atStart => exact ⟨[], 0, g0, k3, a0, d0, l0, v3, rfl, rfl, OW.nil _ _ _ _ _, H4.out.1, H4.out.2.2.2.2.1, H4.out.2.1, H4.out.2.2.1, rfl, Nat.zero_le _, H4.out.2.2.2.2.2, H4.out.2.2.2.1, fun c hc => (H4.out.2.1.ro.lt c hc).1⟩
  case round =>
    obtain ⟨O, i, g, k, a, d, l, v, rfl, rfl, hO, kg, hnx, hF, hgF, hpk, hi, hgw, hbw, hvw⟩ := hrel
    have a0 := (cell3 kg).1
    have a1 := (cell3 kg).2.1
    have a2 := (cell3 kg).2.2
    have hle : w.heap.size ≤ wr.heap.size := hbw.size
    have hOl : O.length ≤ 6000 := by
      have h1 := congrArg List.length hpk
      rw [List.length_append] at h1
      omega
    by_cases hl : 0 < l
    · have c2 : (0 : Int) < (l : Int) := by omega
      have c3 : decide (0 < l) = true := by simpa using hl
      have hrp := nx_rp (s := s) (i := i) (by rw [hnx]; exact hl)
      have hni := nx_is s i
      rw [hnx] at hrp hni
      obtain ⟨r1, r2, r3, r4, r5, _⟩ := hrp
      simp only at r1 r2 r3 r4 r5 hni
      obtain ⟨L, hL⟩ : ∃ L, L = s.extract i a := ⟨_, rfl⟩
      have hsl := sl_at (s := s) (a := i) (b := a) hni.2.1 (by omega)
      rw [← hL] at hsl
      have hLz : L.size ≤ 5000 := by rw [hL, ByteArray.size_extract]; omega
      have hOd : BO w.heap.size u5 O wr.drew := hO.kb (fun _ _ => rfl)
      have HS := hide (add_any (L := L) (d := d) (l := l) hOd (by omega) hle hLz (by omega) r3)
      have D0 : wr.drew.cell? ⟨g, 0, none⟩ = some (.int .i64 (a : Int)) ∧ wr.drew.cell? ⟨g, 1, none⟩ = some (.int .i64 (d : Int)) ∧ wr.drew.cell? ⟨g, 2, none⟩ = some (.int .i64 (l : Int)) := ⟨a0, a1, a2⟩
      have hpk2 : pkX s (a + l) (O ++ enS ⟨L, d, l⟩) := by
        have h1 := hpk
        rw [pkX, show s.size - i = (s.size - i - 1) + 1 by omega, seG, hnx, if_pos hl, enL, List.flatMap_cons, ← List.append_assoc] at h1
        simp only at h1
        rw [pkX, seG_enough (s.size - (a + l)) (s.size - i - 1) (a + l) (Nat.le_refl _) (by omega) r5, hL]
        exact h1
      have hng : u5.ownBlock ≠ some g := bo_apart hO kg (by decide)
      have HQ := hide (And.intro hO (And.intro kg (And.intro hF (And.intro hgF (And.intro hpk2 (And.intro hgw (And.intro hbw (And.intro hng (And.intro (bo_fo hO hF) hvw)))))))))
      obtain ⟨i2, hi2⟩ : ∃ i2, i2 = a + l := ⟨_, rfl⟩
      have e1 : (a : Int) + (l : Int) = (i2 : Int) := by omega
      have e2 : IntKind.i64.wrap (i2 : Int) = (i2 : Int) := by rw [IntKind.wrap_i64]; omega
      have hi2s : i2 ≤ s.size := by omega
      have hii : i < i2 := by have := hni.2.1; omega
      have HI := hide hi2
      clear hO kg hF hgF hpk hpk2 hgw hbw hng hvw hOd r1 r2 r4 r5 hni hnx hL hi2 hl a0 a1
      go_wp2_with fail
      go_region_held_law (fun w' => w'.cell? ⟨g, 0, none⟩ = some (.int .i64 (a : Int)) ∧ w'.cell? ⟨g, 1, none⟩ = some (.int .i64 (d : Int)) ∧ w'.cell? ⟨g, 2, none⟩ = some (.int .i64 (l : Int))) (first | with_reducible assumption)
        (first
          | (go_at_call 33; refine HS.out.mono ?_; rintro e w5 ⟨v5, rfl, hA5⟩
             have hG5 : Gs (Ow u5) wr w5 := ⟨hA5.2.1.os, hA5.2.1.tape, hA5.2.1.output, hA5.2.1.size, hA5.2.1.block⟩
             have k5 : GB w5 g a d l := (hG5.block g (lt_of_block HQ.out.2.1) HQ.out.2.2.2.2.2.2.2.1).trans HQ.out.2.1
             have D5 : w5.cell? ⟨g, 0, none⟩ = some (.int .i64 (a : Int)) ∧ w5.cell? ⟨g, 1, none⟩ = some (.int .i64 (d : Int)) ∧ w5.cell? ⟨g, 2, none⟩ = some (.int .i64 (l : Int)) := cell3 k5
             have H5 := hide (And.intro hA5.1 (And.intro k5 hG5))
             clear hA5 hG5 k5))
      have hF5 := HQ.out.2.2.1.gs H5.out.2.2 HQ.out.2.2.2.2.2.2.2.2.1
      have hbw5 : Below w.heap.size w w5 := H5.out.2.2.below HQ.out.2.2.2.2.2.2.1 hle (fun c e => (HQ.out.1.lt c e).1)
      obtain ⟨a3, a4, a5⟩ := D5
      have HD := hide (And.intro hF5 hbw5)
      obtain ⟨g6, hg6⟩ : ∃ g6, g6 = w5.heap.size := ⟨_, rfl⟩
      obtain ⟨w6, hw6⟩ : ∃ w6, w5.alloc (.cells #[.int .i64 (a : Int), .int .i64 (d : Int), .int .i64 (l : Int)] 62) = w6 := ⟨_, rfl⟩
      have hB6 : Below w5.heap.size w5 w6 := by rw [← hw6]; exact (Below.refl _ _).alloc (Nat.le_refl _) _
      have k6 : GB w6 g6 a d l := by rw [← hw6, hg6]; exact heap_alloc_new w5 _
      have hF6 := hF5.same (Gs.of_below _ hB6)
      have hO6 : BO w.heap.size v5 (O ++ enS ⟨L, d, l⟩) w6 := H5.out.1.keep hB6
      have hgF6 : ¬ FO v b mb g6 := hF5.there2 (by omega)
      have hbw6 := below_step hbw5 hB6
      have hg6w : w.heap.size ≤ g6 := by have := hbw5.size; omega
      have HN6 := hide (next_any (i := i2) hF6 hi2s hs)
      have H6 := hide (And.intro k6 (And.intro hF6 (And.intro hO6 (And.intro hgF6 (And.intro hbw6 (And.intro hg6w (And.intro (bo_fo hO6 hF6) (bo_apart hO6 k6 (by decide)))))))))
      have HW6 := hide (And.intro hw6 hg6)
      clear hF5 hbw5 hB6 k6 hF6 hO6 hgF6 hbw6 hg6w D0 hsl hw6 hg6
      go_wp2_with fail
      rw [HW6.out.1, ← HW6.out.2]
      refine HN6.out.mono ?_
      rintro _ w7 ⟨rfl, v7, ⟨k7, hF7⟩, hG7, hN7⟩
      obtain ⟨a9, d9, l9, hnx9⟩ : ∃ a9 d9 l9, nx s i2 = (a9, d9, l9) := ⟨_, _, _, rfl⟩
      have hgW := lt_of_block H6.out.1
      have kg7 : GB w7 g6 a d l := (hG7.block g6 hgW H6.out.2.2.2.1).trans H6.out.1
      have hgF7 := hN7.out hgW H6.out.2.2.2.1
      have hO7 : BO w.heap.size v5 (O ++ enS ⟨L, d, l⟩) w7 := H6.out.2.2.1.gs2 hG7 (fun c hc e => H6.out.2.2.2.2.2.2.1 c e hc)
      have hvw7 : ∀ c, v7.ownBlock = some c → w.heap.size ≤ c := fun c hc => (hF7.ro.lt c hc).1
      have hbw7 : Below w.heap.size w w7 := hG7.below H6.out.2.2.2.2.1 H6.out.2.2.2.2.1.size (fun c e => by
        rcases e with rfl | rfl | e
        · exact hwb.2
        · exact hwb.1
        · exact HQ.out.2.2.2.2.2.2.2.2.2 c e)
      obtain ⟨⟨z0, z1, z2, z3, z4, z5⟩, ⟨z6, z7, z8, z9⟩, ⟨y6, y7⟩, kf, hG9⟩ := three_set kg7 (.int .i64 (a9 : Int)) (.int .i64 (d9 : Int)) (.int .i64 (l9 : Int))
      have hF9 := hF7.gs hG9 (fun c e e2 => hgF7 (e2 ▸ e))
      have hO9 := hO7.gs2 hG9 (fun c hc e => H6.out.2.2.2.2.2.2.2 (e ▸ hc))
      have hbw9 := hG9.below hbw7 hbw7.size (fun c e => by have := H6.out.2.2.2.2.2.1; omega)
      have kf' : GB (((w7.setCell ⟨g6, 0, none⟩ (.int .i64 (a9 : Int))).setCell ⟨g6, 1, none⟩ (.int .i64 (d9 : Int))).setCell ⟨g6, 2, none⟩ (.int .i64 (l9 : Int))) g6 a9 d9 l9 := kf
      have HE := hide (And.intro hO9 (And.intro kf' (And.intro hnx9 (And.intro hF9 (And.intro hgF7 (And.intro (show pkX s i2 (O ++ enS ⟨L, d, l⟩) by rw [HI.out]; exact HQ.out.2.2.2.2.1) (And.intro hi2s (And.intro H6.out.2.2.2.2.2.1 (And.intro hbw9 hvw7)))))))))
      have HX9 := hide hnx9
      clear kg7 hgF7 hO7 hvw7 hbw7 kf hG9 hF9 hO9 hbw9 kf' hnx9 hF7 hG7 hN7 hgW
      rw [HX9.out]
      simp only [gV]
      go_wp2
      exact ⟨⟨O ++ enS ⟨L, d, l⟩, i2, g6, k7, a9, d9, l9, v7, rfl, rfl, HE.out⟩, by simp [Go.RowKit.intOf]; omega⟩
    · have c2 : ¬ (0 : Int) < (l : Int) := by omega
      have c3 : decide (0 < l) = false := by simpa using hl
      obtain ⟨L, hL⟩ : ∃ L, L = s.extract i s.size := ⟨_, rfl⟩
      have hsl := sl_from (r := s) (a := i) hi
      rw [← hL] at hsl
      have hLz : L.size ≤ 5000 := by rw [hL, ByteArray.size_extract]; omega
      have HS := hide (add_any (L := L) (d := 0) (l := 0) hO (by omega) hle hLz (by omega) (by omega))
      have hend : O ++ enS ⟨L, 0, 0⟩ = enL (seG s s.size 0) := by
        have h1 := hpk
        rw [pkX] at h1
        rw [← h1, hL]
        cases s.size - i with
        | zero => rw [seG, enL, List.flatMap_cons, List.flatMap_nil, List.append_nil]
        | succ f => rw [seG, hnx, if_neg hl, enL, List.flatMap_cons, List.flatMap_nil, List.append_nil]
      have HQ := hide (And.intro hO (And.intro hbw hend))
      clear hO kg hnx hF hgF hpk hgw hbw hvw hL hend hl a0 a1
      go_wp2_with fail
      refine HS.out.mono ?_
      rintro e w5 ⟨v5, rfl, hA5⟩
      have hcv := BO.str hA5.1
      rw [HQ.out.2.2] at hcv
      have HB : Hid (Below w.heap.size w w5) := hA5.2.1.below HQ.out.2.1 hle (fun c e => (HQ.out.1.lt c e).1)
      clear hA5
      go_wp2
      exact bodyPost_ret (v := .tuple #[.string (pkB s), .int .i64 0]) (by simp [results, Tryd.results17, go_sem, pkB]) rfl ⟨rfl, HB.out⟩
theorem pckC : PackC (fun _ => True) pkB := fun w s _ h1 h2 => by
  rw [pkV]
  split
  · rename_i h
    exact pack_ok (by omega)
  · rename_i h
    exact pack_long (by omega) h2
end
end Go.Proofs.YtgigiamnhjelmaaDoor

/-
  Gear: the statement GearCuts, walked.
-/
import Derived.Test.YtdmlhkphdolbeaaDoorGeAll
import Derived.Deep.RegionHeld3
namespace Go.Proofs.YtdmlhkphdolbeaaDoor
open Go.RowKit Go.Lib
/-- What the last look's operations read. -/
def SP11 (w w8 : World) (L B M : Int) (wx : World) : Prop := Below w8.heap.size w8 wx ∧ wx.cell? ⟨w.heap.size, 0, none⟩ = some (.int .i64 L) ∧ wx.cell? ⟨w.heap.size, 1, none⟩ = some (.int .i64 B) ∧ wx.cell? ⟨w.heap.size, 2, none⟩ = some (.int .i64 M) ∧ wx.cell? ⟨w.heap.size + 1, 0, none⟩ = some (.int .i64 L) ∧ wx.cell? ⟨w.heap.size + 1, 1, none⟩ = some (.int .i64 B) ∧ wx.cell? ⟨w.heap.size + 1, 2, none⟩ = some (.int .i64 M)
theorem gearA_is (b : Int) : ∃ g e : Int, gearA b = .tuple #[.int .u64 g, .int .i64 e] := by rw [gearA]; split; exact ⟨_, _, rfl⟩; exact ⟨_, _, rfl⟩
set_option maxRecDepth 100000 in
set_option maxHeartbeats 6400000 in
theorem cuts11 {w : World} (hl : Lm w) (L B M b : Int) (s : ByteArray) (hs : s.size ≤ 4611686018427387904) : Calls Tryd.prog 3 #[.agg #[.int .i64 L, .int .i64 B, .int .i64 M], .string s, .int .i64 b] w fun e w' => e = .returned (.bool true) ∧ Below w.heap.size w w' := by
  obtain ⟨w1, hw1⟩ : ∃ w1, w.alloc (.cells #[.int .i64 L, .int .i64 B, .int .i64 M] 23) = w1 := ⟨_, rfl⟩
  have hb1 : Below w.heap.size w w1 := by rw [← hw1]; exact (Below.refl _ _).alloc (Nat.le_refl _) _
  have k1 : w1.heap[w.heap.size]? = some (.cells #[.int .i64 L, .int .i64 B, .int .i64 M] 23 (0, 0)) := by rw [← hw1]; exact heap_alloc_new w _
  have hs1 : w1.heap.size = w.heap.size + 1 := by rw [← hw1]; simp
  by_cases hA : 5000 < s.size ∧ s.size ≤ 1048576
  · have x1 : (5000 : Int) < (s.size : Int) := by omega
    have x2 : (s.size : Int) ≤ 1048576 := by omega
    have HW := hide (works11 (hl.bel hb1))
    have HB := hide hb1
    clear hb1 k1 hA
    go_enter Tryd.func3, Tryd.ntmps3
    go_wp2_with fail
    refine HW.out.mono ?_
    rintro _ w2 ⟨rfl, hb2⟩
    have HB2 := hide (below_step HB.out hb2)
    clear hb2
    go_wp2
    go_ret
    exact ⟨rfl, HB2.out⟩
  have hB : s.size ≤ 10000 ∨ 1048576 < s.size := by omega
  obtain ⟨w2, hw2⟩ : ∃ w2, w1.alloc (.cells #[.int .i64 L, .int .i64 B, .int .i64 M] 25) = w2 := ⟨_, rfl⟩
  have hb2 : Below w1.heap.size w1 w2 := by rw [← hw2]; exact (Below.refl _ _).alloc (Nat.le_refl _) _
  have k2 : w2.heap[w.heap.size + 1]? = some (.cells #[.int .i64 L, .int .i64 B, .int .i64 M] 25 (0, 0)) := by rw [← hw2, ← hs1]; exact heap_alloc_new w1 _
  have k12 := (hb2.block _ (lt_of_block k1)).trans k1
  obtain ⟨p0, p1, p2⟩ := cell3 k1
  obtain ⟨q0, q1, q2⟩ := cell3 k12
  obtain ⟨q3, q4, q5⟩ := cell3 k2
  have CL : Hid (∀ wx, Below w2.heap.size w2 wx → wx.cell? ⟨w.heap.size, 0, none⟩ = some (.int .i64 L) ∧ wx.cell? ⟨w.heap.size, 1, none⟩ = some (.int .i64 B) ∧ wx.cell? ⟨w.heap.size, 2, none⟩ = some (.int .i64 M) ∧ wx.cell? ⟨w.heap.size + 1, 0, none⟩ = some (.int .i64 L) ∧ wx.cell? ⟨w.heap.size + 1, 1, none⟩ = some (.int .i64 B) ∧ wx.cell? ⟨w.heap.size + 1, 2, none⟩ = some (.int .i64 M)) := fun wx hb => by
    obtain ⟨a0, a1, a2⟩ := cell3 ((hb.block _ (lt_of_block k12)).trans k12)
    obtain ⟨a3, a4, a5⟩ := cell3 ((hb.block _ (lt_of_block k2)).trans k2)
    exact ⟨a0, a1, a2, a3, a4, a5⟩
  have hbw2 := below_step hb1 hb2
  have HW2 := hide (And.intro hbw2 (And.intro (hl.bel hbw2) hs1))
  obtain ⟨g, ge, hg⟩ := gearA_is b
  have HG : Hid (∀ wx, Lm wx → Calls Tryd.prog 8 #[.int .i64 b] wx fun e w' => e = .returned (.tuple #[.int .u64 g, .int .i64 ge]) ∧ Below wx.heap.size wx w') := fun wx h => by rw [← hg]; exact gear_any h b
  have HRG : Hid (∀ wx, Calls Tryd.prog 9 #[.int .i64 b] wx fun e w' => e = .returned (.tuple #[.int .u64 g, .int .i64 ge]) ∧ w' = wx) := fun wx => by rw [← hg]; exact rgear_any wx b
  obtain ⟨n, c, hf⟩ : ∃ n c : Int, firstA L B M s = .tuple #[.int .i64 n, .int .i64 c] := ⟨_, _, rfl⟩
  have HF : Hid (∀ wx, Lm wx → Calls Tryd.prog 10 #[.agg #[.int .i64 L, .int .i64 B, .int .i64 M], .string s] wx fun e w' => e = .returned (.tuple #[.int .i64 n, .int .i64 c]) ∧ Below wx.heap.size wx w') := fun wx h => by rw [← hf]; exact first_any h L B M s hs
  have HRF : Hid (∀ wx, Calls Tryd.prog 11 #[.agg #[.int .i64 L, .int .i64 B, .int .i64 M], .string s] wx fun e w' => e = .returned (.tuple #[.int .i64 n, .int .i64 c]) ∧ Below wx.heap.size wx w') := fun wx => by rw [← hf]; exact rfirst_any L B M s hs
  have HK : Hid (∀ wx, Lm wx → Calls Tryd.prog 12 #[.agg #[.int .i64 L, .int .i64 B, .int .i64 M], .string s] wx fun e w' => ∃ v, e = .returned (.tuple #[v, .int .i64 (cC L B M s)]) ∧ TS wx.heap.size v (cL L B M s) w' ∧ Below wx.heap.size wx w') := fun wx h => chunks_any h L B M hB hs
  have HRK : Hid (∀ wx, Calls Tryd.prog 13 #[.agg #[.int .i64 L, .int .i64 B, .int .i64 M], .string s] wx fun e w' => ∃ v, e = .returned (.tuple #[v, .int .i64 (cC L B M s)]) ∧ TS wx.heap.size v (cL L B M s) w' ∧ Below wx.heap.size wx w') := fun wx => rchunks_any L B M hB hs
  have HLN : Hid ((cL L B M s).length ≤ 4611686018427387904) := by
    show (cL L B M s).length ≤ 4611686018427387904
    rw [cL]
    split
    · exact Nat.le_trans (cuts_len _) hs
    · simp
  generalize cC L B M s = kc at *
  generalize cL L B M s = KL at *
  clear hb1 hb2 k1 k2 k12 hbw2 hl hg hf hB
  by_cases hC : s.size ≤ 5000
  · have x1 : ¬ (5000 : Int) < (s.size : Int) := by omega
    clear hA hC
    go_enter Tryd.func3, Tryd.ntmps3
    go_wp2_with fail
    refine (HG.out w2 HW2.out.2.1).mono ?_
    rintro _ w3 ⟨rfl, hb3⟩
    have HB3 := hide hb3
    clear hb3
    go_wp2_with fail
    refine (HRG.out w3).mono ?_
    rintro _ w4 ⟨rfl, hw4⟩
    subst hw4
    obtain ⟨a0, a1, a2, a3, a4, a5⟩ := CL.out w4 HB3.out
    go_wp2_with fail
    refine (HF.out w4 (HW2.out.2.1.bel HB3.out)).mono ?_
    rintro _ w5 ⟨rfl, hb5⟩
    have HB5 := hide (below_step HB3.out hb5)
    obtain ⟨c0, c1, c2, c3, c4, c5⟩ := CL.out w5 HB5.out
    clear hb5
    go_wp2_with fail
    refine (HRF.out w5).mono ?_
    rintro _ w6 ⟨rfl, hb6⟩
    have HB6 := hide (below_step HB5.out hb6)
    obtain ⟨d0, d1, d2, d3, d4, d5⟩ := CL.out w6 HB6.out
    clear hb6
    go_wp2_with fail
    refine (HK.out w6 (HW2.out.2.1.bel HB6.out)).mono ?_
    rintro _ w7 ⟨lv, rfl, hT7, hb7⟩
    have HB7 := hide (below_step HB6.out hb7)
    obtain ⟨e0, e1, e2, e3, e4, e5⟩ := CL.out w7 HB7.out
    have HT7 := hide (hT7.mono (B' := w.heap.size) (Nat.le_trans HW2.out.1.size HB6.out.size))
    clear hb7 hT7
    go_wp2_with fail
    refine (HRK.out w7).mono ?_
    rintro _ w8 ⟨kv, rfl, hT8, hb8⟩
    have HB8 := hide (below_step HB7.out hb8)
    have SZ : Hid (Below w8.heap.size w8 w8 ∧ w8.cell? ⟨w.heap.size, 0, none⟩ = some (.int .i64 L) ∧ w8.cell? ⟨w.heap.size, 1, none⟩ = some (.int .i64 B) ∧ w8.cell? ⟨w.heap.size, 2, none⟩ = some (.int .i64 M) ∧ w8.cell? ⟨w.heap.size + 1, 0, none⟩ = some (.int .i64 L) ∧ w8.cell? ⟨w.heap.size + 1, 1, none⟩ = some (.int .i64 B) ∧ w8.cell? ⟨w.heap.size + 1, 2, none⟩ = some (.int .i64 M)) := ⟨Below.refl _ _, CL.out w8 HB8.out⟩
    have SZd : Hid (Below w8.heap.size w8 w8.drew ∧ w8.cell? ⟨w.heap.size, 0, none⟩ = some (.int .i64 L) ∧ w8.cell? ⟨w.heap.size, 1, none⟩ = some (.int .i64 B) ∧ w8.cell? ⟨w.heap.size, 2, none⟩ = some (.int .i64 M) ∧ w8.cell? ⟨w.heap.size + 1, 0, none⟩ = some (.int .i64 L) ∧ w8.cell? ⟨w.heap.size + 1, 1, none⟩ = some (.int .i64 B) ∧ w8.cell? ⟨w.heap.size + 1, 2, none⟩ = some (.int .i64 M)) := ⟨(Below.refl _ _).drew, CL.out w8 HB8.out⟩
    have HR8 := hide (And.intro (HT7.out.keep hb8) (And.intro (HT7.out.keep hb8).tr hT8.tr))
    clear hb8 hT8
    have KS : Hid (∀ wx wy, SP11 w w8 L B M wx → Below wx.heap.size wx wy → SP11 w w8 L B M wy) := fun wx wy h k => by
      have hk := below_step h.1 k
      exact ⟨hk, CL.out wy (below_step HB8.out hk)⟩
    have A14 : Hid (∀ (v : Value) (wx : World), v = .agg #[.int .i64 L, .int .i64 B, .int .i64 M] → SP11 w w8 L B M wx → Calls Tryd.prog 14 #[v] wx fun e wy => e = .returned (.int .i64 (ckC L B M)) ∧ SP11 w w8 L B M wy) := fun v wx hv h => by
      subst hv
      exact (check_any wx L B M).mono fun _ _ ⟨he, hk⟩ => ⟨he, KS.out _ _ h hk⟩
    have A15 : Hid (∀ (v : Value) (wx : World), v = .agg #[.int .i64 L, .int .i64 B, .int .i64 M] → SP11 w w8 L B M wx → Calls Tryd.prog 15 #[v] wx fun e wy => e = .returned (.int .i64 (ckC L B M)) ∧ SP11 w w8 L B M wy) := fun v wx hv h => by
      subst hv
      exact (rcheck_any wx L B M).mono fun _ _ ⟨he, hk⟩ => ⟨he, KS.out _ _ h hk⟩
    have A16 : Hid (∀ (u v : Value) (wx : World), u = lv → v = kv → SP11 w w8 L B M wx → Calls Tryd.prog 16 #[u, v] wx fun e wy => e = .returned (.bool true) ∧ SP11 w w8 L B M wy) := fun u v wx hu hv h => by
      subst hu hv
      exact (sameTexts_big (HR8.out.2.1.bel h.1) (HR8.out.2.2.bel h.1) HLN.out).mono fun _ _ ⟨he, hk⟩ => ⟨he, KS.out _ _ h hk⟩
    have A7 : Hid (∀ (wx : World), SP11 w w8 L B M wx → Calls Tryd.prog 7 #[] wx fun e wy => e = .returned (.bool true) ∧ SP11 w w8 L B M wy) := fun wx h =>
      (works11 ((HW2.out.2.1.bel HB8.out).bel h.1)).mono fun _ _ ⟨he, hk⟩ => ⟨he, KS.out _ _ h hk⟩
    generalize ckC L B M = cc at *
    obtain ⟨s0, s1, s2, s3, s4, s5, s6⟩ := SZ.out
    go_upto_region 10 with fail
    go_region_held3 (fun wx => Below w8.heap.size w8 wx ∧ wx.cell? ⟨w.heap.size, 0, none⟩ = some (.int .i64 L) ∧ wx.cell? ⟨w.heap.size, 1, none⟩ = some (.int .i64 B) ∧ wx.cell? ⟨w.heap.size, 2, none⟩ = some (.int .i64 M) ∧ wx.cell? ⟨w.heap.size + 1, 0, none⟩ = some (.int .i64 L) ∧ wx.cell? ⟨w.heap.size + 1, 1, none⟩ = some (.int .i64 B) ∧ wx.cell? ⟨w.heap.size + 1, 2, none⟩ = some (.int .i64 M)) (first | assumption | exact ⟨by assumption, by assumption, by assumption, by assumption, by assumption, by assumption, by assumption⟩ | exact SZ.out | exact SZd.out)
      (first
        | (go_at_call 14; refine (A14.out _ _ (by with_reducible rfl) (by first | assumption | exact ⟨by assumption, by assumption, by assumption, by assumption, by assumption, by assumption, by assumption⟩)).mono ?_; rintro e wa ⟨rfl, ka, ka0, ka1, ka2, ka3, ka4, ka5⟩)
        | (go_at_call 15; refine (A15.out _ _ (by with_reducible rfl) (by first | assumption | exact ⟨by assumption, by assumption, by assumption, by assumption, by assumption, by assumption, by assumption⟩)).mono ?_; rintro e wb ⟨rfl, kb, kb0, kb1, kb2, kb3, kb4, kb5⟩)
        | (go_at_call 16; refine (A16.out _ _ _ (by with_reducible rfl) (by with_reducible rfl) (by first | assumption | exact ⟨by assumption, by assumption, by assumption, by assumption, by assumption, by assumption, by assumption⟩)).mono ?_; rintro e wc ⟨rfl, kc, kc0, kc1, kc2, kc3, kc4, kc5⟩)
        | (go_at_call 7; refine (A7.out _ (by first | assumption | exact ⟨by assumption, by assumption, by assumption, by assumption, by assumption, by assumption, by assumption⟩)).mono ?_; rintro e wd ⟨rfl, kd, kd0, kd1, kd2, kd3, kd4, kd5⟩))
    have hT9 := HR8.out.1.keep kd
    have HT9 := hide hT9
    have HB9 := hide (below_step (below_step HW2.out.1 HB8.out) kd)
    clear hT9 s0 s1 s2 s3 s4 s5 s6 kd0 kd1 kd2 kd3 kd4 kd5
    go_wp2_with fail
    refine (spoil_big HT9.out HLN.out).mono ?_
    rintro _ wz ⟨rfl, hG⟩
    have HZ : Hid (Below w.heap.size w wz) := hG.below HB9.out HB9.out.size (fun i hi => (HT9.out.lt i hi).1)
    clear hG
    go_wp2
    go_ret
    exact ⟨rfl, HZ.out⟩
  · have x1 : (5000 : Int) < (s.size : Int) := by omega
    have x2 : ¬ (s.size : Int) ≤ 1048576 := by omega
    clear hA hC
    go_enter Tryd.func3, Tryd.ntmps3
    go_wp2_with fail
    refine (HG.out w2 HW2.out.2.1).mono ?_
    rintro _ w3 ⟨rfl, hb3⟩
    have HB3 := hide hb3
    clear hb3
    go_wp2_with fail
    refine (HRG.out w3).mono ?_
    rintro _ w4 ⟨rfl, hw4⟩
    subst hw4
    obtain ⟨a0, a1, a2, a3, a4, a5⟩ := CL.out w4 HB3.out
    go_wp2_with fail
    refine (HF.out w4 (HW2.out.2.1.bel HB3.out)).mono ?_
    rintro _ w5 ⟨rfl, hb5⟩
    have HB5 := hide (below_step HB3.out hb5)
    obtain ⟨c0, c1, c2, c3, c4, c5⟩ := CL.out w5 HB5.out
    clear hb5
    go_wp2_with fail
    refine (HRF.out w5).mono ?_
    rintro _ w6 ⟨rfl, hb6⟩
    have HB6 := hide (below_step HB5.out hb6)
    obtain ⟨d0, d1, d2, d3, d4, d5⟩ := CL.out w6 HB6.out
    clear hb6
    go_wp2_with fail
    refine (HK.out w6 (HW2.out.2.1.bel HB6.out)).mono ?_
    rintro _ w7 ⟨lv, rfl, hT7, hb7⟩
    have HB7 := hide (below_step HB6.out hb7)
    obtain ⟨e0, e1, e2, e3, e4, e5⟩ := CL.out w7 HB7.out
    have HT7 := hide (hT7.mono (B' := w.heap.size) (Nat.le_trans HW2.out.1.size HB6.out.size))
    clear hb7 hT7
    go_wp2_with fail
    refine (HRK.out w7).mono ?_
    rintro _ w8 ⟨kv, rfl, hT8, hb8⟩
    have HB8 := hide (below_step HB7.out hb8)
    have SZ : Hid (Below w8.heap.size w8 w8 ∧ w8.cell? ⟨w.heap.size, 0, none⟩ = some (.int .i64 L) ∧ w8.cell? ⟨w.heap.size, 1, none⟩ = some (.int .i64 B) ∧ w8.cell? ⟨w.heap.size, 2, none⟩ = some (.int .i64 M) ∧ w8.cell? ⟨w.heap.size + 1, 0, none⟩ = some (.int .i64 L) ∧ w8.cell? ⟨w.heap.size + 1, 1, none⟩ = some (.int .i64 B) ∧ w8.cell? ⟨w.heap.size + 1, 2, none⟩ = some (.int .i64 M)) := ⟨Below.refl _ _, CL.out w8 HB8.out⟩
    have SZd : Hid (Below w8.heap.size w8 w8.drew ∧ w8.cell? ⟨w.heap.size, 0, none⟩ = some (.int .i64 L) ∧ w8.cell? ⟨w.heap.size, 1, none⟩ = some (.int .i64 B) ∧ w8.cell? ⟨w.heap.size, 2, none⟩ = some (.int .i64 M) ∧ w8.cell? ⟨w.heap.size + 1, 0, none⟩ = some (.int .i64 L) ∧ w8.cell? ⟨w.heap.size + 1, 1, none⟩ = some (.int .i64 B) ∧ w8.cell? ⟨w.heap.size + 1, 2, none⟩ = some (.int .i64 M)) := ⟨(Below.refl _ _).drew, CL.out w8 HB8.out⟩
    have HR8 := hide (And.intro (HT7.out.keep hb8) (And.intro (HT7.out.keep hb8).tr hT8.tr))
    clear hb8 hT8
    have KS : Hid (∀ wx wy, SP11 w w8 L B M wx → Below wx.heap.size wx wy → SP11 w w8 L B M wy) := fun wx wy h k => by
      have hk := below_step h.1 k
      exact ⟨hk, CL.out wy (below_step HB8.out hk)⟩
    have A14 : Hid (∀ (v : Value) (wx : World), v = .agg #[.int .i64 L, .int .i64 B, .int .i64 M] → SP11 w w8 L B M wx → Calls Tryd.prog 14 #[v] wx fun e wy => e = .returned (.int .i64 (ckC L B M)) ∧ SP11 w w8 L B M wy) := fun v wx hv h => by
      subst hv
      exact (check_any wx L B M).mono fun _ _ ⟨he, hk⟩ => ⟨he, KS.out _ _ h hk⟩
    have A15 : Hid (∀ (v : Value) (wx : World), v = .agg #[.int .i64 L, .int .i64 B, .int .i64 M] → SP11 w w8 L B M wx → Calls Tryd.prog 15 #[v] wx fun e wy => e = .returned (.int .i64 (ckC L B M)) ∧ SP11 w w8 L B M wy) := fun v wx hv h => by
      subst hv
      exact (rcheck_any wx L B M).mono fun _ _ ⟨he, hk⟩ => ⟨he, KS.out _ _ h hk⟩
    have A16 : Hid (∀ (u v : Value) (wx : World), u = lv → v = kv → SP11 w w8 L B M wx → Calls Tryd.prog 16 #[u, v] wx fun e wy => e = .returned (.bool true) ∧ SP11 w w8 L B M wy) := fun u v wx hu hv h => by
      subst hu hv
      exact (sameTexts_big (HR8.out.2.1.bel h.1) (HR8.out.2.2.bel h.1) HLN.out).mono fun _ _ ⟨he, hk⟩ => ⟨he, KS.out _ _ h hk⟩
    have A7 : Hid (∀ (wx : World), SP11 w w8 L B M wx → Calls Tryd.prog 7 #[] wx fun e wy => e = .returned (.bool true) ∧ SP11 w w8 L B M wy) := fun wx h =>
      (works11 ((HW2.out.2.1.bel HB8.out).bel h.1)).mono fun _ _ ⟨he, hk⟩ => ⟨he, KS.out _ _ h hk⟩
    generalize ckC L B M = cc at *
    obtain ⟨s0, s1, s2, s3, s4, s5, s6⟩ := SZ.out
    go_upto_region 10 with fail
    go_region_held3 (fun wx => Below w8.heap.size w8 wx ∧ wx.cell? ⟨w.heap.size, 0, none⟩ = some (.int .i64 L) ∧ wx.cell? ⟨w.heap.size, 1, none⟩ = some (.int .i64 B) ∧ wx.cell? ⟨w.heap.size, 2, none⟩ = some (.int .i64 M) ∧ wx.cell? ⟨w.heap.size + 1, 0, none⟩ = some (.int .i64 L) ∧ wx.cell? ⟨w.heap.size + 1, 1, none⟩ = some (.int .i64 B) ∧ wx.cell? ⟨w.heap.size + 1, 2, none⟩ = some (.int .i64 M)) (first | assumption | exact ⟨by assumption, by assumption, by assumption, by assumption, by assumption, by assumption, by assumption⟩ | exact SZ.out | exact SZd.out)
      (first
        | (go_at_call 14; refine (A14.out _ _ (by with_reducible rfl) (by first | assumption | exact ⟨by assumption, by assumption, by assumption, by assumption, by assumption, by assumption, by assumption⟩)).mono ?_; rintro e wa ⟨rfl, ka, ka0, ka1, ka2, ka3, ka4, ka5⟩)
        | (go_at_call 15; refine (A15.out _ _ (by with_reducible rfl) (by first | assumption | exact ⟨by assumption, by assumption, by assumption, by assumption, by assumption, by assumption, by assumption⟩)).mono ?_; rintro e wb ⟨rfl, kb, kb0, kb1, kb2, kb3, kb4, kb5⟩)
        | (go_at_call 16; refine (A16.out _ _ _ (by with_reducible rfl) (by with_reducible rfl) (by first | assumption | exact ⟨by assumption, by assumption, by assumption, by assumption, by assumption, by assumption, by assumption⟩)).mono ?_; rintro e wc ⟨rfl, kc, kc0, kc1, kc2, kc3, kc4, kc5⟩)
        | (go_at_call 7; refine (A7.out _ (by first | assumption | exact ⟨by assumption, by assumption, by assumption, by assumption, by assumption, by assumption, by assumption⟩)).mono ?_; rintro e wd ⟨rfl, kd, kd0, kd1, kd2, kd3, kd4, kd5⟩))
    have hT9 := HR8.out.1.keep kd
    have HT9 := hide hT9
    have HB9 := hide (below_step (below_step HW2.out.1 HB8.out) kd)
    clear hT9 s0 s1 s2 s3 s4 s5 s6 kd0 kd1 kd2 kd3 kd4 kd5
    go_wp2_with fail
    refine (spoil_big HT9.out HLN.out).mono ?_
    rintro _ wz ⟨rfl, hG⟩
    have HZ : Hid (Below w.heap.size w wz) := hG.below HB9.out HB9.out.size (fun i hi => (HT9.out.lt i hi).1)
    clear hG
    go_wp2
    go_ret
    exact ⟨rfl, HZ.out⟩
end Go.Proofs.YtdmlhkphdolbeaaDoor

/-
  The walk of StripeAny.
-/
import Derived.Test.YtfjkdmiaagalhaaNew2
import Derived.Test.YtfjkdmiaagalhaaSumsLaw
namespace Go.Proofs.Ytfjkdmiaagalhaa
open Go.RowKit Go.Lib

/-- What the statement keeps. -/
structure AK (w wr : World) (b sb f1 f2 g k m q B gp cap : Nat) (L : List Nat) (s : ByteArray) : Prop where
  pp : PP wr b sb f1 f2 g k m
  ip : IP B (.slice (some ⟨gp, 0, none⟩) k cap) k (fun t => ((L.getD t 0 : Nat) : Int)) (fun t => shd k s (L.getD t 0)) wr
  sb : SB wr q (k + m) (shd k s)
  be : Below w.heap.size w wr
theorem AK.gs {w wr w' : World} {b sb f1 f2 g k m q B gp cap : Nat} {L : List Nat} {s : ByteArray} (h : AK w wr b sb f1 f2 g k m q B gp cap L s) (hf1 : w.heap.size ≤ f1) (hf2 : w.heap.size ≤ f2) (hP : PP w' b sb f1 f2 g k m) (hg : Gs (fun i => i = f1 ∨ i = f2) wr w') : AK w w' b sb f1 f2 g k m q B gp cap L s :=
  ⟨hP, h.ip.gs h.pp.sp.fl h.pp.fl hg, h.sb.gs h.pp.sp.fl h.pp.fl hg, hg.below h.be h.be.size (by rintro i (rfl | rfl) <;> assumption)⟩
theorem AK.px {w wr : World} {b sb f1 f2 g k m q B gp cap : Nat} {L : List Nat} {s : ByteArray} (h : AK w wr b sb f1 f2 g k m q B gp cap L s) : PX wr (.slice (some ⟨gp, 0, none⟩) k cap) k (fun t => ((L.getD t 0 : Nat) : Int)) (fun t => shd k s (L.getD t 0)) := h.ip.px

theorem AK.bel {w wr w' : World} {b sb f1 f2 g k m q B gp cap : Nat} {L : List Nat} {s : ByteArray} (h : AK w wr b sb f1 f2 g k m q B gp cap L s) (hb : Below wr.heap.size wr w') : AK w w' b sb f1 f2 g k m q B gp cap L s :=
  ⟨h.pp.below hb, h.ip.keep hb, h.sb.below hb (Nat.le_refl _), below_step h.be hb⟩
theorem AK.tail {w wr : World} {b sb f1 f2 g k m q B gp cap : Nat} {L : List Nat} {s : ByteArray} (h : AK w wr b sb f1 f2 g k m q B gp cap L s) (k1 : 1 ≤ k) (c : Nat) : PX wr (.slice (some ⟨gp, 2, none⟩) (k - 1) c) (k - 1) (fun t => ((L.getD (1 + t) 0 : Nat) : Int)) (fun t => shd k s (L.getD (1 + t) 0)) := by
  have hk : k - 1 + 1 = k := by omega
  have hi := h.ip
  generalize hF : (fun t => shd k s (L.getD t 0)) = Y at hi
  have hF' : (fun t => shd k s (L.getD (1 + t) 0)) = fun t => Y (1 + t) := by rw [← hF]
  rw [hF']
  rw [← hk] at hi
  obtain ⟨h1, _, _, h4, _⟩ := hi.tail
  exact PX.of_range h1 h4
/-- A list but its first, twice. -/
theorem AK.twice {w wr : World} {b sb f1 f2 g k m q B gp cap : Nat} {L : List Nat} {s : ByteArray} (h : AK w wr b sb f1 f2 g k m q B gp cap L s) (k1 : 1 ≤ k) (k2 : k ≤ 255) (hB : w.heap.size ≤ B) (o c : Nat) (hc : k = 1 ∨ (o = 2 ∧ c = cap - 1)) :
    ∃ v' w', (Builtin.append_ #[43, 43] 43 #[.slice (some ⟨gp, o, none⟩) (k - 1) c, .slice (some ⟨gp, o, none⟩) (k - 1) c]).run Try.prog wr = .ok v' w' ∧
      PX w' v' (k - 1 + (k - 1)) (fun t => ((L.getD (1 + t % (k - 1)) 0 : Nat) : Int)) (fun t => shd k s (L.getD (1 + t % (k - 1)) 0)) ∧ PP w' b sb f1 f2 g k m ∧ Below w.heap.size w w' := by
  by_cases e1 : k = 1
  · subst e1
    exact ⟨_, _, twice_none wr gp o c, ⟨_, _, rfl, .inl rfl⟩, h.pp, h.be⟩
  · obtain ⟨rfl, rfl⟩ := hc.resolve_left e1
    have hk : k - 1 + 1 = k := by omega
    have hi := h.ip
    generalize hF : (fun t => shd k s (L.getD t 0)) = Y at hi
    have hF' : (fun t => shd k s (L.getD (1 + t % (k - 1)) 0)) = fun t => Y (1 + t % (k - 1)) := by rw [← hF]
    rw [hF']
    rw [← hk] at hi
    obtain ⟨v', w', h1, h2, h3⟩ := twice_any hi (by omega)
    obtain ⟨_, hBg, _, _⟩ := hi.tail
    obtain ⟨_, ⟨e, _⟩ | ⟨g', c', cur, e, _, hg', _⟩⟩ := hi.own
    · simp at e
    simp only [Value.slice.injEq, Option.some.injEq, Addr.mk.injEq, and_true, true_and] at e
    obtain ⟨rfl, rfl⟩ := e
    exact ⟨v', w', h1, h2, h.pp.putp hg' h3, below_gb h.be h3 (Nat.le_trans hB hBg) h.be.size⟩
theorem few_one {k : Nat} (k1 : 1 ≤ k) (I : Nat → Int) : (fu k I (k - 1)).length < k := by
  have := fu_len_le k I (k - 1)
  omega
theorem few_two {k : Nat} (k1 : 1 ≤ k) (I : Nat → Int) : (fu k (fun t => I (1 + t % (k - 1))) (k - 1 + (k - 1))).length < k := by
  rw [fu_twice (by omega) (k - 1) (fun j hj => ⟨j, hj, by rw [Nat.add_mod_left]⟩)]
  exact few_one k1 _

set_option maxRecDepth 100000 in
set_option maxHeartbeats 3200000 in
theorem any_walk (x y : Int) (s : ByteArray) {vo : Value} {no : Nat} {Zo : Nat → Int} (w : World) (hO : Fd.NX w vo no Zo) (hno : no ≤ maxLen) :
    Calls Try.prog 4 #[.agg #[.int .i64 x, .int .i64 y], .string s, vo] w fun e w' => e = .returned (.bool true) ∧ Below w.heap.size w w' := by
  obtain ⟨k, hk⟩ : ∃ k, k = 1 + amg x 8 := ⟨_, rfl⟩
  obtain ⟨m, hm⟩ : ∃ m, m = amg y 7 := ⟨_, rfl⟩
  have k1 : 1 ≤ k := by omega
  have km : k + m ≤ 255 := by
    have := (amg_spec x 8 (by decide)).2.1
    have := (amg_spec y 7 (by decide)).2.1
    omega
  have HKM := hide (And.intro k1 km)
  have HKE := hide (And.intro hk hm)
  obtain ⟨W, hW⟩ : ∃ W, W = w.alloc (.cells #[.int .i64 x, .int .i64 y] 22) := ⟨_, rfl⟩
  have hA2 : A2 W w.heap.size x y := by rw [hW]; exact A2.new w x y
  have HB : Hid (Below w.heap.size w W) := by rw [hW]; exact below_alloc (Below.refl _ _) _
  have a0 := hA2.cell0
  have a1 := hA2.cell1
  have HW := hide hW
  have HO := hide hO
  have HNO := hide hno
  clear hW hA2 hk hm hO hno
  go_enter Try.func4, Try.ntmps4
  go_upto_region 1 with fail
  rw [← HW.out]
  go_wp2_with fail
  refine (lshape_any x y).mono ?_
  rintro e w1 ⟨rfl, hb1⟩
  rw [← HKE.out.1, ← HKE.out.2]
  have HB1 := hide (below_step HB.out hb1)
  clear hb1 HB a0 a1 HW k1 km
  go_wp2_with fail
  refine (snew_ok2 HKM.out.1 HKM.out.2).mono ?_
  rintro e w2 ⟨pb, sb, f1, f2, g, rfl, hP, hf1, hf2, hb2⟩
  have HB2 := hide (below_step HB1.out hb2)
  have HP2 := hide hP
  have HF := hide (And.intro (Nat.le_trans HB1.out.size hf1) (Nat.le_trans HB1.out.size hf2))
  clear hP hf1 hf2 hb2 HB1
  go_wp2_with fail
  refine (works_any _).mono ?_
  rintro e w3 ⟨rfl, hb3⟩
  have HB3 := hide (below_step HB2.out hb3)
  have HP3 := hide (HP2.out.below hb3)
  clear hb3 HB2 HP2
  by_cases h300 : 300 < s.size
  · have b1 : (300 : Int) < (s.size : Int) := by omega
    go_wp2
    go_ret
    exact ⟨rfl, HB3.out⟩
  have b1 : ¬ (300 : Int) < (s.size : Int) := by omega
  go_wp2_with fail
  refine (split_ok HP3.out HKM.out.1 HKM.out.2 (by omega)).mono ?_
  rintro e w4 ⟨q, rfl, hS4, hq4, hP4, hg4⟩
  have HS4 := hide hS4
  have HP4 := hide hP4
  have HB4 := hide (below_gb HB3.out hg4 HF.out.2 HB3.out.size)
  obtain ⟨n, hn⟩ : ∃ n, n = k + m := ⟨_, rfl⟩
  have hni : (k : Int) + (m : Int) = (n : Int) := by omega
  have hwr : IntKind.i64.wrap ((k : Int) + (m : Int)) = (n : Int) := by rw [hni]; exact wraps_i64 _ (by have := HKM.out.2; omega) (by have := HKM.out.2; omega)
  rw [← hn] at HS4 ⊢
  have HN := hide hn
  clear hS4 hq4 hP4 hg4 HB3 HP3 hn hni
  go_wp2_with fail
  refine (chosen_any HS4.out (by rw [HN.out]; exact HKM.out.2) (by rw [HN.out]; omega) HNO.out (HO.out.below HB4.out)).mono ?_
  rintro e w5 ⟨v5, L, rfl, hI5, hL1, hL2, hL3, hb5⟩
  obtain ⟨gp, cap, rfl⟩ : ∃ gp cap, v5 = .slice (some ⟨gp, 0, none⟩) k cap := by
    obtain ⟨_, ⟨_, e⟩ | ⟨g', c', _, e, _⟩⟩ := hI5.own
    · have := HKM.out.1; omega
    · exact ⟨g', c', e⟩
  have HA5 : Hid (AK w w5 pb sb f1 f2 g k m q w4.heap.size gp cap L s) := ⟨HP4.out.below hb5, hI5, by rw [← HN.out]; exact HS4.out.below hb5 (Nat.le_refl _), below_step HB4.out hb5⟩
  rw [HN.out] at hL3
  have HJ := hide (any_join_all HKM.out.1 HKM.out.2 hL1 hL2 hL3 s)
  have HQ : Hid ((∀ i, i < k → 0 ≤ ((L.getD i 0 : Nat) : Int) ∧ ((L.getD i 0 : Nat) : Int) < ((k + m : Nat) : Int)) ∧ (∀ i, i < k → (shd k s (L.getD i 0)).size = eachN k s.size)) := ⟨fun i hi => by
    have := hL3 _ (getD_mem (L := L) (t := i) (by omega))
    omega, fun i _ => shd_size HKM.out.1 s _⟩
  have hkm9 : k ≤ maxLen := by have := HKM.out.2; unfold maxLen; omega
  have HB4s := hide HB4.out.size
  clear hI5 hL1 hL2 hL3 hb5 HS4 HP4 HB4 HO HNO
  go_wp2_with fail
  refine (join_any HA5.out.pp HKM.out.1 HKM.out.2 hkm9 HA5.out.px (long := s.size) (by omega) HQ.out.1 HQ.out.2).mono ?_
  rintro e w6 ⟨⟨hlt, _⟩ | ⟨_, rfl⟩, hP6, hg6⟩
  · rw [HJ.out.1, List.length_range] at hlt; omega
  rw [HJ.out.2]
  have HA6 := hide (HA5.out.gs HF.out.1 HF.out.2 hP6 hg6)
  clear hP6 hg6 HA5
  have HW4 : Hid (w.heap.size ≤ w4.heap.size) := HB4s.out
  have hnb : n ≤ 255 := by rw [HN.out]; exact HKM.out.2
  clear HB4s
  go_wp2
  go_loopw [80] (fun z wr => ∃ i : Nat, i ≤ n ∧ z = .int .i64 i ∧ AK w wr pb sb f1 f2 g k m q w4.heap.size gp cap L s) (fun z _ => n - (RowKit.intOf z).toNat)
  case atStart => exact ⟨0, Nat.zero_le _, rfl, HA6.out⟩
  case round =>
    obtain ⟨i, hi, rfl, hA⟩ := hrel
    clear HA6
    have HA := hide hA
    clear hA
    by_cases hlt : i < n
    · have b2 : (i : Int) < (n : Int) := by omega
      have b3 : (0 : Int) ≤ (i : Int) := by omega
      go_wp2_with fail
      refine (shardU_ok HA.out.pp HKM.out.1 HKM.out.2 hkm9 HA.out.px (long := s.size) (by omega) HQ.out.1 HQ.out.2 (by rw [HJ.out.1, List.length_range]) (i := i) (by rw [← HN.out]; exact hlt)).mono ?_
      rintro e w7 ⟨rfl, hP7, hg7⟩
      rw [HJ.out.2]
      have HA7 := hide (HA.out.gs HF.out.1 HF.out.2 hP7 hg7)
      have c7 := HA7.out.sb.cell i (by rw [← HN.out]; exact hlt)
      clear hP7 hg7 HA
      generalize shd k s i = Y at *
      go_wp2
      exact ⟨⟨i + 1, by omega, by go_num, HA7.out⟩, by simp [RowKit.intOf]; omega⟩
    · obtain rfl : i = n := by omega
      have k1 := HKM.out.1
      have b5 : (1 : Int) ≤ (k : Int) := by omega
      have hcapk : k ≤ cap := by
        obtain ⟨_, ⟨e, _⟩ | ⟨g', c', cur, e, _, _, h5, _⟩⟩ := HA.out.ip.own
        · simp at e
        · simp only [Value.slice.injEq, Option.some.injEq, Addr.mk.injEq, and_true, true_and] at e
          omega
      obtain ⟨o, hs2, ho⟩ : ∃ o, (∀ w : World, (Instr.slice 43 (.slice (some ⟨gp, 0, none⟩) k cap) (some (.int .i64 1)) none none).run Try.prog w = .ok (.slice (some ⟨gp, o, none⟩) (k - 1) (cap - 1)) w) ∧ (k = 1 ∨ o = 2) := by
        by_cases hc1 : cap = 1
        · refine ⟨0, fun w => ?_, .inl (by omega)⟩
          have hc' : (cap = 1) = True := eq_true hc1
          rw [run_slice_l (P := Try.prog) (w := w) 43 _ _ _ Try.underlying43 .i64 1 (by decide) b5]
          simp [go_sem, sliced, hc']
        · refine ⟨2, fun w => ?_, .inr rfl⟩
          rw [run_slice_l (P := Try.prog) (w := w) 43 _ _ _ Try.underlying43 .i64 1 (by decide) b5]
          simp [go_sem, sliced, hc1]
      have HPX : Hid (∀ wx, AK w wx pb sb f1 f2 g k m q w4.heap.size gp cap L s → PX wx (.slice (some ⟨gp, o, none⟩) (k - 1) (cap - 1)) (k - 1) (fun t => ((L.getD (1 + t) 0 : Nat) : Int)) (fun t => shd k s (L.getD (1 + t) 0))) := fun wx h => by
        rcases ho with e | e
        · subst e; exact ⟨_, _, rfl, .inl rfl⟩
        · subst e; exact h.tail k1 _
      have HTW : Hid (∀ wx, AK w wx pb sb f1 f2 g k m q w4.heap.size gp cap L s → _) := fun wx h => h.twice k1 (by have := HKM.out.2; omega) HW4.out o (cap - 1) (ho.imp_right (fun e => ⟨e, rfl⟩))
      clear ho
      go_wp2_with fail
      refine (join_any HA.out.pp HKM.out.1 HKM.out.2 (by unfold maxLen at *; omega) (HPX.out _ HA.out) (long := s.size) (by omega) (fun t ht => HQ.out.1 (1 + t) (by omega)) (fun t ht => HQ.out.2 (1 + t) (by omega))).mono ?_
      rintro e w8 ⟨hor8, hP8, hg8⟩
      obtain ⟨_, rfl⟩ := hor8.resolve_right (fun h8 => by have := few_one k1 (fun t => ((L.getD (1 + t) 0 : Nat) : Int)); omega)
      clear hor8
      have HA8 := hide (HA.out.gs HF.out.1 HF.out.2 hP8 hg8)
      clear hP8 hg8 HA
      obtain ⟨v9, w9, hap, hX9, hP9, hB9⟩ := HTW.out w8.drew (HA8.out.bel (Below.refl _ _).drew)
      have HP9 := hide hP9
      have HB9 := hide hB9
      have HJ9 : Hid (Calls Try.prog 19 #[.pointer (some ⟨pb, 0, none⟩), v9, .int .i64 s.size] w9 fun e w' => e = .returned (.tuple #[.string ⟨#[]⟩, .int .i64 50]) ∧ Below w.heap.size w w') := by
        refine (join_any hP9 HKM.out.1 HKM.out.2 (by have := HKM.out.2; unfold maxLen; omega) hX9 (long := s.size) (by omega) (fun t ht => HQ.out.1 (1 + t % (k - 1)) (by have := Nat.mod_lt t (show 0 < k - 1 by omega); omega)) (fun t ht => HQ.out.2 (1 + t % (k - 1)) (by have := Nat.mod_lt t (show 0 < k - 1 by omega); omega))).mono ?_
        rintro e w' ⟨⟨_, rfl⟩ | ⟨hlt9, _⟩, _, hg9⟩
        · exact ⟨rfl, hg9.below hB9 hB9.size (by rintro j (rfl | rfl); exact HF.out.1; exact HF.out.2)⟩
        · have := few_two k1 (fun t => ((L.getD t 0 : Nat) : Int)); omega
      clear hX9 hP9 hB9 HP9 HA8 HTW HPX
      go_upto_region 22 with fail
      go_region_held_law (fun _ => True) (first | trivial)
        (first
          | (refine step_append_run rfl _ _ 43 43 rfl _ _ rfl rfl _ _ hap ?_)
          | (go_at_call 19; refine HJ9.out.mono ?_; rintro e wz ⟨rfl, hbz⟩))
      all_goals
        go_wp2
        go_ret
        exact ⟨rfl, by assumption⟩
end Go.Proofs.Ytfjkdmiaagalhaa

/-
  Gear: the statement GearSame, walked.
-/
import Derived.Test.YtdmlhkphdolbeaaDoorGeSet
import Derived.Test.YtdmlhkphdolbeaaDoorGeLaw1
import Derived.Test.YtdmlhkphdolbeaaDoorGeOwn
import Derived.Test.YtdmlhkphdolbeaaDoorGeMap
import Derived.Deep.RegionHeldLaw
namespace Go.Proofs.YtdmlhkphdolbeaaDoor
open Go.RowKit Go.Lib
/-- Which of the ends are told, and what stands behind each of them. -/
def EN (L B M : Nat) (A : ByteArray) (f : Int → Option Nat) : Prop := ∀ x v, f x = some v → ∃ l : Nat, x = (l : Int) ∧ l ≤ A.size ∧ v ≤ (cuts L B M A).length ∧ (cuts L B M A).drop v = cuts L B M (A.extract (A.size - l) A.size)
section
variable {L B M : Nat} {A : ByteArray} {f : Int → Option Nat}
theorem EN.first : EN L B M A (fun y => if y = (A.size : Int) then some 0 else (fun _ => none) y) := fun x v h => by
  by_cases e : x = (A.size : Int)
  · simp only [if_pos e, Option.some.injEq] at h
    subst h
    exact ⟨A.size, e, Nat.le_refl _, Nat.zero_le _, by rw [Nat.sub_self, ex_all]; rfl⟩
  · simp only [if_neg e] at h
    cases h
theorem EN.more (h : EN L B M A f) {l k : Nat} (hl : l ≤ A.size) (hk : k ≤ (cuts L B M A).length) (hd : (cuts L B M A).drop k = cuts L B M (A.extract (A.size - l) A.size)) : EN L B M A (fun y => if y = (l : Int) then some k else f y) := fun x v hx => by
  by_cases e : x = (l : Int)
  · simp only [if_pos e, Option.some.injEq] at hx
    subst hx
    exact ⟨l, e, hl, hk, hd⟩
  · simp only [if_neg e] at hx
    exact h x v hx
/-- One chunk less to go. -/
theorem step_left (o : OkX L B M) {l k : Nat} {c : ByteArray} (hl : l ≤ A.size) (hd : (cuts L B M A).drop k = cuts L B M (A.extract (A.size - l) A.size)) (hc : (cuts L B M A)[k]? = some c) : c.size ≤ l ∧ 0 < c.size ∧ (cuts L B M A).drop (k + 1) = cuts L B M (A.extract (A.size - (l - c.size)) A.size) := by
  obtain ⟨_, h2, h3, h4, _⟩ := step_at o (Nat.sub_le _ _) hd hc
  refine ⟨by omega, h2, ?_⟩
  rw [h4, show A.size - l + c.size = A.size - (l - c.size) by omega]
theorem end_left (o : OkX L B M) {l k : Nat} (hl : l ≤ A.size) (hd : (cuts L B M A).drop k = cuts L B M (A.extract (A.size - l) A.size)) (hk : (cuts L B M A).length ≤ k) : l = 0 := by
  have := end_at o (Nat.sub_le _ _) hd hk
  omega
end
set_option maxRecDepth 100000 in
set_option maxHeartbeats 3200000 in
theorem same11 {w : World} (hl : Lm w) (x y z : Int) (q0 q1 s : ByteArray) (hs : s.size ≤ 4611686018427387904) (hq0 : q0.size ≤ 4611686018427387904) (hq1 : q1.size ≤ 4611686018427387904) :
    Calls Tryd.prog 5 #[.agg #[.int .i64 x, .int .i64 y, .int .i64 z], .agg #[.string q0, .string q1], .string s] w fun e w' => e = .returned (.bool true) ∧ Below w.heap.size w w' := by
  obtain ⟨w0, hw0⟩ : ∃ w0, w.alloc (.cells #[.int .i64 x, .int .i64 y, .int .i64 z] 42) = w0 := ⟨_, rfl⟩
  have hb0 : Below w.heap.size w w0 := by rw [← hw0]; exact (Below.refl _ _).alloc (Nat.le_refl _) _
  have k0 : w0.heap[w.heap.size]? = some (.cells #[.int .i64 x, .int .i64 y, .int .i64 z] 42 (0, 0)) := by rw [← hw0]; exact heap_alloc_new w _
  have hs0 : w0.heap.size = w.heap.size + 1 := by rw [← hw0]; simp
  obtain ⟨w1, hw1⟩ : ∃ w1, w0.alloc (.cells #[.string q0, .string q1] 46) = w1 := ⟨_, rfl⟩
  have hb01 : Below w0.heap.size w0 w1 := by rw [← hw1]; exact (Below.refl _ _).alloc (Nat.le_refl _) _
  have k1 : w1.heap[w.heap.size + 1]? = some (.cells #[.string q0, .string q1] 46 (0, 0)) := by rw [← hw1, ← hs0]; exact heap_alloc_new w0 _
  have k01 := (hb01.block _ (lt_of_block k0)).trans k0
  have hb1 := below_step hb0 hb01
  have HSU : Hid (∀ wx, Calls Tryd.prog 18 #[.agg #[.int .i64 x, .int .i64 y, .int .i64 z]] wx fun e w' => e = .returned (.agg #[.int .i64 ((1 + amg x 30 : Nat) : Int), .int .i64 ((1 + amg y 8 : Nat) : Int), .int .i64 ((1 + amg x 30 + amg z 100 : Nat) : Int)]) ∧ Below wx.heap.size wx w') := fun wx => setup_any x y z
  have HO := hide (setup_ok x y z)
  generalize 1 + amg x 30 + amg z 100 = M at *
  generalize 1 + amg x 30 = L at *
  generalize 1 + amg y 8 = Bi at *
  have HL1 := hide (hl.bel hb1)
  have H1 := hide (And.intro hb1 (And.intro k01 k1))
  clear hl hb1 k1 hb0 hb01 k0 k01
  have HP : Hid (∀ wx, Below w1.heap.size w1 wx → wx.cell? ⟨w.heap.size + 1, 0, none⟩ = some (.string q0) ∧ wx.cell? ⟨w.heap.size + 1, 1, none⟩ = some (.string q1)) := fun wx hb => by
    have kk := (hb.block _ (lt_of_block H1.out.2.2)).trans H1.out.2.2
    exact ⟨by simp [World.cell?, kk], by simp [World.cell?, kk]⟩
  by_cases g0 : 1000 < q0.size
  · have x1 : (1000 : Int) < (q0.size : Int) := by omega
    go_enter Tryd.func5, Tryd.ntmps5
    go_wp2_with fail
    refine (works11 HL1.out).mono ?_
    rintro _ w2 ⟨rfl, hb2⟩
    obtain ⟨p0, p1⟩ := HP.out w2 hb2
    have HB2 := hide hb2
    clear hb2
    go_wp2
    go_ret
    exact ⟨rfl, below_step H1.out.1 HB2.out⟩
  by_cases g1 : 1000 < q1.size
  · have x0 : ¬ (1000 : Int) < (q0.size : Int) := by omega
    have x1 : (1000 : Int) < (q1.size : Int) := by omega
    go_enter Tryd.func5, Tryd.ntmps5
    go_wp2_with fail
    refine (works11 HL1.out).mono ?_
    rintro _ w2 ⟨rfl, hb2⟩
    obtain ⟨p0, p1⟩ := HP.out w2 hb2
    have HB2 := hide hb2
    clear hb2
    go_wp2
    go_ret
    exact ⟨rfl, below_step H1.out.1 HB2.out⟩
  have x0 : ¬ (1000 : Int) < (q0.size : Int) := by omega
  have x1 : ¬ (1000 : Int) < (q1.size : Int) := by omega
  by_cases g2 : 1000 < s.size
  · have x2 : (1000 : Int) < (s.size : Int) := by omega
    go_enter Tryd.func5, Tryd.ntmps5
    go_wp2_with fail
    refine (works11 HL1.out).mono ?_
    rintro _ w2 ⟨rfl, hb2⟩
    obtain ⟨p0, p1⟩ := HP.out w2 hb2
    have HB2 := hide hb2
    clear hb2
    go_wp2
    go_ret
    exact ⟨rfl, below_step H1.out.1 HB2.out⟩
  have x2 : ¬ (1000 : Int) < (s.size : Int) := by omega
  go_enter Tryd.func5, Tryd.ntmps5
  go_wp2_with fail
  refine (works11 HL1.out).mono ?_
  rintro _ w2 ⟨rfl, hb2⟩
  obtain ⟨p0, p1⟩ := HP.out w2 hb2
  obtain ⟨y0, y1, y2⟩ := cell3 ((hb2.block _ (lt_of_block H1.out.2.1)).trans H1.out.2.1)
  have HB2 := hide hb2
  clear hb2
  go_wp2_with fail
  refine (HSU.out w2).mono ?_
  rintro _ w5 ⟨rfl, hb5⟩
  obtain ⟨w6, hw6⟩ : ∃ w6, w5.alloc (.cells #[.int .i64 (L : Int), .int .i64 (Bi : Int), .int .i64 (M : Int)] 23) = w6 := ⟨_, rfl⟩
  have hb6 : Below w5.heap.size w5 w6 := by rw [← hw6]; exact (Below.refl _ _).alloc (Nat.le_refl _) _
  have k6 : w6.heap[w5.heap.size]? = some (.cells #[.int .i64 (L : Int), .int .i64 (Bi : Int), .int .i64 (M : Int)] 23 (0, 0)) := by rw [← hw6]; exact heap_alloc_new w5 _
  obtain ⟨z0, z1, z2⟩ := cell3 k6
  have hb16 := below_step HB2.out (below_step hb5 hb6)
  obtain ⟨p2, p3⟩ := HP.out w6 hb16
  have HB6 := hide (And.intro hb16 (And.intro (HL1.out.bel hb16) k6))
  clear hb5 hb6 k6 hb16
  obtain ⟨A, hA⟩ : ∃ A, q0 ++ s = A := ⟨_, rfl⟩
  have hAz : q0.size + s.size = A.size := by rw [← hA, ByteArray.size_append]
  obtain ⟨D, hD⟩ : ∃ D, q1 ++ s = D := ⟨_, rfl⟩
  have hDz : q1.size + s.size = D.size := by rw [← hD, ByteArray.size_append]
  have a1 := add_run hA (show q0.size + s.size ≤ 9223372036854775807 by omega)
  have a2 := add_run2 hA (show q0.size + s.size ≤ 9223372036854775807 by omega)
  have a3 := add_run hD (show q1.size + s.size ≤ 9223372036854775807 by omega)
  have a4 := add_run2 hD (show q1.size + s.size ≤ 9223372036854775807 by omega)
  have HAD := hide (And.intro hA hD)
  clear hA hD
  go_wp2_with fail
  refine (chunks_ok HO.out HB6.out.2.1 (s := A) (by omega)).mono ?_
  rintro _ w7 ⟨lv, rfl, hT7, hb7⟩
  obtain ⟨u0, u1, u2⟩ := cell3 ((hb7.block _ (lt_of_block HB6.out.2.2)).trans HB6.out.2.2)
  obtain ⟨p4, p5⟩ := HP.out w7 (below_step HB6.out.1 hb7)
  have HB7 := hide (And.intro hb7 hT7)
  clear hb7 hT7
  go_wp2_with fail
  refine (chunks_ok HO.out (HB6.out.2.1.bel HB7.out.1) (s := D) (by omega)).mono ?_
  rintro _ w8 ⟨mv, rfl, hT8, hb8⟩
  obtain ⟨p6, p7⟩ := HP.out w8 (below_step (below_step HB6.out.1 HB7.out.1) hb8)
  obtain ⟨n, hn⟩ : ∃ n, (cuts L Bi M A).length = n := ⟨_, rfl⟩
  obtain ⟨m, hm⟩ : ∃ m, (cuts L Bi M D).length = m := ⟨_, rfl⟩
  have hns : n ≤ 2000 := by rw [← hn]; exact Nat.le_trans (cuts_len _) (by omega)
  have hms : m ≤ 2000 := by rw [← hm]; exact Nat.le_trans (cuts_len _) (by omega)
  have hTa := HB7.out.2.keep hb8
  obtain ⟨la, lc, hlv⟩ := hTa.shp
  obtain ⟨ma, mc, hmv⟩ := hT8.shp
  have HT := hide (And.intro hTa (And.intro hT8 (And.intro hn hm)))
  rw [hn] at hlv
  rw [hm] at hmv
  have HB8 := hide (And.intro (below_step (below_step HB6.out.1 HB7.out.1) hb8) (below_step (below_step H1.out.1 (below_step HB6.out.1 HB7.out.1)) hb8))
  clear hb8 hT8 hTa hn hm HB7
  subst hlv hmv
  obtain ⟨T, hT⟩ : ∃ T, A.size = T := ⟨_, rfl⟩
  obtain ⟨E, hE⟩ : ∃ E, D.size = E := ⟨_, rfl⟩
  rw [hT] at hAz
  rw [hE] at hDz
  have HTE := hide (And.intro hT hE)
  clear hT hE a1 a2 a3 a4
  have e1 : (q0.size : Int) + (s.size : Int) = (T : Int) := by omega
  have e2 : IntKind.i64.wrap (T : Int) = (T : Int) := by rw [IntKind.wrap_i64]; omega
  have e3 : (q1.size : Int) + (s.size : Int) = (E : Int) := by omega
  have e4 : IntKind.i64.wrap (E : Int) = (E : Int) := by rw [IntKind.wrap_i64]; omega
  have HZ := hide (And.intro hAz hDz)
  clear hAz hDz
  have hmm : (Instr.makeMap 47 none).run Tryd.prog w8 = .ok (.map (some w8.heap.size)) (w8.alloc (.map #[] 0)) := rfl
  obtain ⟨w9, hup, hM9, hg9⟩ := (MP.made w8).update (by omega) (x := (T : Int)) (by omega) (by omega) (i := 0) (by omega)
  have hb9 : Below w8.heap.size w8 w9 := ((Below.refl _ w8).alloc (Nat.le_refl _) _).grown hg9 (by simp) (fun k hk => by cases hk; exact Nat.le_refl _)
  have HB9 := hide (And.intro hb9 hM9)
  clear hb9 hM9 hg9
  replace hup : (Instr.mapUpdate 47 (.map (some w8.heap.size)) (.int .i64 (T : Int)) (.int .i64 0)).run Tryd.prog (w8.alloc (.map #[] 0)) = .ok () w9 := hup
  go_wp2
  clear hmm hup
  go_loopw [12, 74] (fun lf i wr => ∃ (l k : Nat) (f : Int → Option Nat), lf = .int .i64 l ∧ i = .int .i64 k ∧ l ≤ T ∧ k ≤ n ∧ (cuts L Bi M A).drop k = cuts L Bi M (A.extract (A.size - l) A.size) ∧ MP wr w8.heap.size (k + 1) f ∧ EN L Bi M A f ∧ f (l : Int) = some k ∧ Below w8.heap.size w8 wr) (fun _ i _ => n - (Go.RowKit.intOf i).toNat)
  case atStart => exact ⟨T, 0, _, rfl, rfl, Nat.le_refl _, Nat.zero_le _, by rw [HTE.out.1, Nat.sub_self, ← HTE.out.1, ex_all]; rfl, HB9.out.2, by rw [← HTE.out.1]; exact EN.first, by simp, HB9.out.1⟩
  case round =>
    obtain ⟨l, k, f, rfl, rfl, hlT, hk, hd, hMP, hEN, hfl, hb⟩ := hrel
    by_cases hlt : k < n
    · obtain ⟨c, hc⟩ : ∃ c, (cuts L Bi M A)[k]? = some c := ⟨_, List.getElem?_eq_getElem (by rw [HT.out.2.2.1]; exact hlt)⟩
      obtain ⟨b1, b2, b3⟩ := step_left HO.out (by rw [HTE.out.1]; exact hlT) hd hc
      obtain ⟨l', hl'⟩ : ∃ l', l - c.size = l' := ⟨_, rfl⟩
      rw [hl'] at b3
      have c1 : (l : Int) - (c.size : Int) = (l' : Int) := by omega
      have c2 : IntKind.i64.wrap (l' : Int) = (l' : Int) := by rw [IntKind.wrap_i64]; omega
      obtain ⟨w10, hup, hM10, hg10⟩ := hMP.update (by omega) (x := (l' : Int)) (by omega) (by omega) (i := k + 1) (by omega)
      have c3 : ((k + 1 : Nat) : Int) = (k : Int) + 1 := by omega
      have c4 : IntKind.i64.wrap ((k : Int) + 1) = (k : Int) + 1 := by rw [IntKind.wrap_i64]; omega
      rw [c3] at hup
      have hb10 := hb.grown hg10 hb.size (fun k hk => by cases hk; exact Nat.le_refl _)
      have hE10 := hEN.more (l := l') (k := k + 1) (by have := HTE.out.1; omega) (by have := HT.out.2.2.1; omega) b3
      obtain ⟨a', c', q1', hA⟩ := HT.out.1.tr
      obtain ⟨g, o, ea, hg, hC⟩ := hA.resolve_left (by intro e; rw [e] at hc; simp at hc)
      simp only [Value.slice.injEq] at q1'
      obtain ⟨rfl, -, rfl⟩ := q1'
      subst ea
      have c0 := (hb.cell (p := ⟨g, o + k, none⟩) hg).trans (hC k c hc)
      have b4 : (k : Int) < (n : Int) := by omega
      have b5 : (0 : Int) ≤ (k : Int) := by omega
      have HE := hide (And.intro hM10 (And.intro hE10 (And.intro hb10 b3)))
      have h3 : l' ≤ T := by omega
      clear hM10 hE10 hb10 hg10 hMP hEN hfl hb hd b3 hC hg hA hc hl' c3
      go_wp2
      exact ⟨⟨l', k + 1, _, rfl, by go_num, h3, by omega, HE.out.2.2.2, HE.out.1, HE.out.2.1, by simp, HE.out.2.2.1⟩, by simp [Go.RowKit.intOf]; omega⟩
    · obtain rfl : k = n := by omega
      have hl0 := end_left HO.out (by rw [HTE.out.1]; exact hlT) hd (by rw [HT.out.2.2.1]; exact Nat.le_refl _)
      subst hl0
      obtain ⟨p8, p9⟩ := HP.out wr (below_step HB8.out.1 hb)
      have HF := hide (And.intro hMP (And.intro hEN (And.intro hfl hb)))
      clear hMP hEN hfl hb hd
      by_cases hE0 : E = 0
      · have m0 : m = 0 := by rw [← HT.out.2.2.2, cuts_nil (by rw [HTE.out.2]; exact hE0)]; rfl
        have HX := hide (below_step HB8.out.2 HF.out.2.2.2)
        have d1 : (E : Int) = 0 := by omega
        have d2 : ((E : Int) == 0) = true := by simp [hE0]
        have d3 : (m : Int) = 0 := by omega
        have d4 : ((m : Int) == 0) = true := by simp [m0]
        go_wp2
        go_ret
        exact ⟨rfl, HX.out⟩
      · have d1 : ¬ (E : Int) = 0 := by omega
        have d2 : ((E : Int) == 0) = false := by simpa using hE0
        go_wp2
        clear p0 p1 p2 p3 p4 p5 p6 p7 p8 p9 y0 y1 y2 z0 z1 z2 u0 u1 u2
        obtain ⟨wv, hwv⟩ : ∃ wv, wr = wv := ⟨_, rfl⟩
        have HF' : Hid (MP wv w8.heap.size (k + 1) f ∧ EN L Bi M A f ∧ f ((0 : Nat) : Int) = some k ∧ Below w8.heap.size w8 wv) := by rw [← hwv]; exact HF.out
        rw [hwv]
        clear HF hwv
        go_loopw [12, 101] (fun lf i wr => ∃ l j : Nat, lf = .int .i64 l ∧ i = .int .i64 j ∧ 0 < l ∧ l ≤ E ∧ j ≤ m ∧ (cuts L Bi M D).drop j = cuts L Bi M (D.extract (D.size - l) D.size) ∧ Below wv.heap.size wv wr) (fun _ i _ => m - (Go.RowKit.intOf i).toNat)
        case atStart => exact ⟨E, 0, rfl, rfl, by omega, Nat.le_refl _, Nat.zero_le _, by rw [HTE.out.2, Nat.sub_self, ← HTE.out.2, ex_all]; rfl, Below.refl _ _⟩
        case round =>
          obtain ⟨l, j, rfl, rfl, hl0, hlE, hj, hd, hb⟩ := hrel
          by_cases hlt : j < m
          · obtain ⟨c, hc⟩ : ∃ c, (cuts L Bi M D)[j]? = some c := ⟨_, List.getElem?_eq_getElem (by rw [HT.out.2.2.2]; exact hlt)⟩
            obtain ⟨b1, b2, b3⟩ := step_left HO.out (by rw [HTE.out.2]; exact hlE) hd hc
            obtain ⟨l', hl'⟩ : ∃ l', l - c.size = l' := ⟨_, rfl⟩
            rw [hl'] at b3
            have c1 : (l : Int) - (c.size : Int) = (l' : Int) := by omega
            have c2 : IntKind.i64.wrap (l' : Int) = (l' : Int) := by rw [IntKind.wrap_i64]; omega
            have hlook := (HF'.out.1.below hb).look (x := (l' : Int)) (by omega) (by omega)
            have hbb := below_step HF'.out.2.2.2 hb
            obtain ⟨a', c', q1', hA⟩ := HT.out.2.1.tr
            obtain ⟨g, o, ea, hg, hC⟩ := hA.resolve_left (by intro e; rw [e] at hc; simp at hc)
            simp only [Value.slice.injEq] at q1'
            obtain ⟨rfl, -, rfl⟩ := q1'
            subst ea
            have c0 := (hbb.cell (p := ⟨g, o + j, none⟩) hg).trans (hC j c hc)
            have b4 : (j : Int) < (m : Int) := by omega
            have b5 : (0 : Int) ≤ (j : Int) := by omega
            have h3 : l' ≤ E := by omega
            have HB := hide (And.intro hb (And.intro hbb b3))
            have HN : Hid (f (l' : Int) = none → 0 < l') := fun e => Nat.pos_of_ne_zero fun e0 => by rw [e0, HF'.out.2.2.1] at e; cases e
            clear hb hbb hC hg hA hc hd b3 hl'
            cases hf : f (l' : Int) with
            | none =>
              rw [hf] at hlook
              replace hlook : (Instr.lookup 47 (.map (some w8.heap.size)) (.int .i64 (l' : Int)) true).run Tryd.prog wr = .ok (.tuple #[.int .i64 0, .bool false]) wr := hlook
              have h5 := HN.out hf
              clear hf HN
              go_wp2
              exact ⟨⟨l', j + 1, rfl, by go_num, h5, h3, by omega, HB.out.2.2, HB.out.1⟩, by simp [Go.RowKit.intOf]; omega⟩
            | some v =>
              rw [hf] at hlook
              replace hlook : (Instr.lookup 47 (.map (some w8.heap.size)) (.int .i64 (l' : Int)) true).run Tryd.prog wr = .ok (.tuple #[.int .i64 (v : Int), .bool true]) wr := hlook
              obtain ⟨l2, e5, e6, e7, e8⟩ := HF'.out.2.1 _ _ hf
              obtain rfl : l' = l2 := by omega
              clear hf HN e5
              by_cases hls : l' ≤ s.size
              · have h6 : (l' : Int) ≤ (s.size : Int) := by omega
                have h7 : decide ((l' : Int) ≤ (s.size : Int)) = true := by simpa using h6
                obtain ⟨lv', hr1, ht1⟩ := ts_drop (HT.out.1.keep HB.out.2.1) (k := v) e7
                obtain ⟨mv', hr2, ht2⟩ := ts_drop (HT.out.2.1.keep HB.out.2.1) (k := j + 1) (by rw [HT.out.2.2.2]; omega)
                have hsame : (cuts L Bi M D).drop (j + 1) = (cuts L Bi M A).drop v := by
                  rw [HB.out.2.2, e8, ← HAD.out.1, ← HAD.out.2, app_back q0 hls, app_back q1 hls]
                rw [hsame] at ht2
                have hlen : ((cuts L Bi M A).drop v).length ≤ 4611686018427387904 := by
                  rw [List.length_drop, HT.out.2.2.1]
                  omega
                have HST : Hid (∀ (u v' : Value) wx, u = lv' → v' = mv' → Below wr.heap.size wr wx → Calls Tryd.prog 16 #[u, v'] wx fun e wy => e = .returned (.bool true) ∧ Below wr.heap.size wr wy) := fun u v' wx hu hv h => by
                  subst hu hv
                  exact (sameTexts_big (ht1.bel h) (ht2.bel h) hlen).mono fun _ _ ⟨he, hh⟩ => ⟨he, below_step h hh⟩
                have HR := hide (And.intro (Below.refl wr.heap.size wr) (Below.refl wr.heap.size wr).drew)
                have HX := hide (below_step HB8.out.2 HB.out.2.1)
                have j1 : IntKind.i64.wrap ((j : Int) + 1) = (j : Int) + 1 := by rw [IntKind.wrap_i64]; omega
                replace hr2 : ∀ wx, (Instr.slice 33 (.slice (some ⟨g, o, none⟩) m mc) (some (.int .i64 ((j : Int) + 1))) none none).run Tryd.prog wx = .ok mv' wx := hr2
                clear e6 e7 e8 ht1 ht2 hlen hsame
                go_upto_region 27 with fail
                go_region_held_law (fun wx => Below wr.heap.size wr wx) (first | assumption | with_reducible exact HR.out.1 | with_reducible exact HR.out.2)
                  (first | (go_at_call 16; refine Calls.mono (HST.out _ _ _ (by with_reducible rfl) (by with_reducible rfl) (by assumption)) ?_; rintro e w12 ⟨rfl, hw12⟩))
                go_wp2
                go_ret
                exact ⟨rfl, below_step HX.out (by assumption)⟩
              · have h6 : ¬ (l' : Int) ≤ (s.size : Int) := by omega
                have h7 : decide ((l' : Int) ≤ (s.size : Int)) = false := by simpa using h6
                have h5 : 0 < l' := by omega
                clear e6 e7 e8
                go_wp2
                exact ⟨⟨l', j + 1, rfl, by go_num, h5, h3, by omega, HB.out.2.2, HB.out.1⟩, by simp [Go.RowKit.intOf]; omega⟩
          · exfalso
            have := end_left HO.out (by rw [HTE.out.2]; exact hlE) hd (by rw [HT.out.2.2.2]; omega)
            omega
end Go.Proofs.YtdmlhkphdolbeaaDoor
